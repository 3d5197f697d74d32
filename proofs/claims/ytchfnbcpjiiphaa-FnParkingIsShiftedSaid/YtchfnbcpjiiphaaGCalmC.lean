/-
  Conversions, fields, parts of slices, boxes, structs and the nil check: calm, too.
-/
import Derived.Test.YtchfnbcpjiiphaaGCalmB
import Derived.Laws.Sem
namespace Go.Proofs.Ytchfnbcpjiiphaa
open Go
variable {P : Program}

theorem calm_freeze (a : Addr) (n : Nat) : Calm P (freeze a n) := trivial
theorem calm_mapM_list {α β : Type} (f : α → Sem β) (hf : ∀ a, Calm P (f a)) : ∀ l : List α, Calm P (l.mapM f)
  | [] => by rw [List.mapM_nil]; exact calm_pure _
  | a :: l => by
    rw [List.mapM_cons]
    exact calm_mbind _ _ (hf a) fun _ => calm_mbind _ _ (calm_mapM_list f hf l) fun _ => calm_pure _
theorem calm_mapM_arr {α β : Type} (as : Array α) (f : α → Sem β) (hf : ∀ a, Calm P (f a)) : Calm P (as.mapM f) := by
  rw [Array.mapM_eq_mapM_toList]
  exact calm_map _ _ (calm_mapM_list f hf _)
theorem calm_markStringish (a : Addr) : Calm P (markStringish a) := by
  unfold markStringish
  repeat' (first
    | with_reducible exact calm_pure _
    | with_reducible exact calm_stuck _
    | with_reducible exact calm_goPanic _
    | with_reducible exact calm_load _ _
    | with_reducible exact calm_store _ _ _
    | with_reducible exact calm_shape _
    | with_reducible exact calm_frozen _
    | with_reducible exact calm_choose _
    | with_reducible exact calm_program
    | with_reducible exact calm_room
    | with_reducible exact calm_askRoom _
    | with_reducible exact calm_typeInfo _
    | with_reducible exact calm_underlying _
    | with_reducible exact calm_zeroValue _
    | with_reducible exact calm_sizeOf _
    | with_reducible exact calm_isAgg _
    | with_reducible exact calm_loadCellsFrom _ _ _
    | with_reducible exact calm_loadCells _ _
    | with_reducible exact calm_storeCells _ _ _
    | with_reducible exact calm_loadVar _ _
    | with_reducible exact calm_storeVar _ _ _
    | with_reducible exact calm_newRow _ _
    | with_reducible exact calm_newVar _ _
    | with_reducible exact calm_elemOf _
    | with_reducible exact calm_runtimePanic _
    | with_reducible exact calm_boundsPanic _ _ _ _
    | with_reducible exact calm_asIntOf _
    | with_reducible exact calm_asInt _
    | with_reducible exact calm_asBool _
    | with_reducible exact calm_asAddr _
    | with_reducible exact calm_sureAddr _
    | with_reducible exact calm_loadAt _ _
    | with_reducible exact calm_storeAt _ _ _
    | with_reducible exact calm_lenOf _
    | with_reducible exact calm_firstCells _ _ _
    | with_reducible exact calm_holdsCells _ _
    | with_reducible exact calm_mayShare _ _ _ _ _
    | with_reducible exact calm_len _ _ _
    | with_reducible exact calm_indexAt _ _ _
    | with_reducible exact calm_buildSlice _ _ _
    | with_reducible exact calm_makeSlice _ _ _
    | with_reducible exact calm_append _ _ _
    | with_reducible exact calm_typeStr _
    | with_reducible exact calm_part _ _ _
    | with_reducible exact calm_viewAt _
    | with_reducible exact calm_numberAt _
    | with_reducible exact calm_asNumber _ _
    | with_reducible exact calm_behindNumber _
    | with_reducible exact calm_noView _
    | with_reducible exact calm_stringish _
    | with_reducible exact calm_mayBeOne _ _
    | with_reducible exact calm_sameAddr _ _
    | with_reducible exact calm_samePointer _ _
    | with_reducible exact calm_byteOf _
    | with_reducible exact calm_twoPlaces _ _
    | with_reducible exact calm_addrSub _ _ _
    | with_reducible exact calm_addrCmp _ _ _
    | with_reducible exact calm_addrMod _ _ _
    | with_reducible exact calm_unsafeAdd _ _ _
    | with_reducible exact calm_movedNumber _ _ _
    | with_reducible exact calm_movedPointer _ _ _
    | with_reducible exact calm_intArith _ _ _ _
    | with_reducible exact calm_intDiv _ _ _ _
    | with_reducible exact calm_intBits _ _ _ _
    | with_reducible exact calm_intCmp _ _ _
    | with_reducible exact calm_shift _ _ _ _ _
    | with_reducible exact calm_floatArith _ _ _ _
    | with_reducible exact calm_floatCmp _ _ _ _
    | with_reducible exact calm_floatToFloat _ _ _
    | with_reducible exact calm_carith _ _ _ _
    | with_reducible exact calm_ccmp _ _ _ _
    | with_reducible exact calm_cconv _ _ _
    | with_reducible exact calm_cproduct _ _ _ _
    | with_reducible exact calm_ccorrected _ _ _ _ _
    | with_reducible exact calm_cquotient _ _ _ _
    | with_reducible exact calm_complexOp _ _ _ _ _ _
    | with_reducible exact calm_stringOp _ _ _
    | with_reducible exact calm_eqGuardIn _ _ _ _
    | with_reducible exact calm_equalIn _ _ _ _
    | with_reducible exact calm_equal _ _ _
    | with_reducible exact calm_eqGuard _ _ _ _ _ _
    | with_reducible exact calm_binOp _ _ _ _
    | with_reducible exact calm_makeChan _ _
    | with_reducible exact calm_extract _ _
    | with_reducible exact calm_freeze _ _
    | ((with_reducible refine calm_unsupported _ ?_); intro _ h; cases h)
    | ((with_reducible refine calm_newObj _ ?_); intro _ _ h; cases h)
    | with_reducible exact calm_map _ _ (calm_choose _)
    | with_reducible refine calm_map _ _ ?_
    | with_reducible refine calm_forIn_arr _ _ (fun _ _ => ?_) _
    | with_reducible refine calm_forIn_range _ _ (fun _ _ => ?_) _
    | with_reducible refine calm_getObj_bind _ _ (fun _ => ?_)
    | with_reducible refine calm_mapM_arr _ _ (fun _ => ?_)
    | with_reducible refine calm_mbind _ _ ?_ (fun _ => ?_)
    | with_reducible refine calm_ite _ _ _ (fun _ => ?_) (fun _ => ?_)
    | split
    | dsimp only)
theorem calm_intToInt (k : IntKind) (n : Int) : Calm P (Conv.intToInt k n) := by
  unfold Conv.intToInt
  repeat' (first
    | with_reducible exact calm_pure _
    | with_reducible exact calm_stuck _
    | with_reducible exact calm_goPanic _
    | with_reducible exact calm_load _ _
    | with_reducible exact calm_store _ _ _
    | with_reducible exact calm_shape _
    | with_reducible exact calm_frozen _
    | with_reducible exact calm_choose _
    | with_reducible exact calm_program
    | with_reducible exact calm_room
    | with_reducible exact calm_askRoom _
    | with_reducible exact calm_typeInfo _
    | with_reducible exact calm_underlying _
    | with_reducible exact calm_zeroValue _
    | with_reducible exact calm_sizeOf _
    | with_reducible exact calm_isAgg _
    | with_reducible exact calm_loadCellsFrom _ _ _
    | with_reducible exact calm_loadCells _ _
    | with_reducible exact calm_storeCells _ _ _
    | with_reducible exact calm_loadVar _ _
    | with_reducible exact calm_storeVar _ _ _
    | with_reducible exact calm_newRow _ _
    | with_reducible exact calm_newVar _ _
    | with_reducible exact calm_elemOf _
    | with_reducible exact calm_runtimePanic _
    | with_reducible exact calm_boundsPanic _ _ _ _
    | with_reducible exact calm_asIntOf _
    | with_reducible exact calm_asInt _
    | with_reducible exact calm_asBool _
    | with_reducible exact calm_asAddr _
    | with_reducible exact calm_sureAddr _
    | with_reducible exact calm_loadAt _ _
    | with_reducible exact calm_storeAt _ _ _
    | with_reducible exact calm_lenOf _
    | with_reducible exact calm_firstCells _ _ _
    | with_reducible exact calm_holdsCells _ _
    | with_reducible exact calm_mayShare _ _ _ _ _
    | with_reducible exact calm_len _ _ _
    | with_reducible exact calm_indexAt _ _ _
    | with_reducible exact calm_buildSlice _ _ _
    | with_reducible exact calm_makeSlice _ _ _
    | with_reducible exact calm_append _ _ _
    | with_reducible exact calm_typeStr _
    | with_reducible exact calm_part _ _ _
    | with_reducible exact calm_viewAt _
    | with_reducible exact calm_numberAt _
    | with_reducible exact calm_asNumber _ _
    | with_reducible exact calm_behindNumber _
    | with_reducible exact calm_noView _
    | with_reducible exact calm_stringish _
    | with_reducible exact calm_mayBeOne _ _
    | with_reducible exact calm_sameAddr _ _
    | with_reducible exact calm_samePointer _ _
    | with_reducible exact calm_byteOf _
    | with_reducible exact calm_twoPlaces _ _
    | with_reducible exact calm_addrSub _ _ _
    | with_reducible exact calm_addrCmp _ _ _
    | with_reducible exact calm_addrMod _ _ _
    | with_reducible exact calm_unsafeAdd _ _ _
    | with_reducible exact calm_movedNumber _ _ _
    | with_reducible exact calm_movedPointer _ _ _
    | with_reducible exact calm_intArith _ _ _ _
    | with_reducible exact calm_intDiv _ _ _ _
    | with_reducible exact calm_intBits _ _ _ _
    | with_reducible exact calm_intCmp _ _ _
    | with_reducible exact calm_shift _ _ _ _ _
    | with_reducible exact calm_floatArith _ _ _ _
    | with_reducible exact calm_floatCmp _ _ _ _
    | with_reducible exact calm_floatToFloat _ _ _
    | with_reducible exact calm_carith _ _ _ _
    | with_reducible exact calm_ccmp _ _ _ _
    | with_reducible exact calm_cconv _ _ _
    | with_reducible exact calm_cproduct _ _ _ _
    | with_reducible exact calm_ccorrected _ _ _ _ _
    | with_reducible exact calm_cquotient _ _ _ _
    | with_reducible exact calm_complexOp _ _ _ _ _ _
    | with_reducible exact calm_stringOp _ _ _
    | with_reducible exact calm_eqGuardIn _ _ _ _
    | with_reducible exact calm_equalIn _ _ _ _
    | with_reducible exact calm_equal _ _ _
    | with_reducible exact calm_eqGuard _ _ _ _ _ _
    | with_reducible exact calm_binOp _ _ _ _
    | with_reducible exact calm_makeChan _ _
    | with_reducible exact calm_extract _ _
    | with_reducible exact calm_freeze _ _
    | with_reducible exact calm_markStringish _
    | ((with_reducible refine calm_unsupported _ ?_); intro _ h; cases h)
    | ((with_reducible refine calm_newObj _ ?_); intro _ _ h; cases h)
    | with_reducible exact calm_map _ _ (calm_choose _)
    | with_reducible refine calm_map _ _ ?_
    | with_reducible refine calm_forIn_arr _ _ (fun _ _ => ?_) _
    | with_reducible refine calm_forIn_range _ _ (fun _ _ => ?_) _
    | with_reducible refine calm_getObj_bind _ _ (fun _ => ?_)
    | with_reducible refine calm_mapM_arr _ _ (fun _ => ?_)
    | with_reducible refine calm_mbind _ _ ?_ (fun _ => ?_)
    | with_reducible refine calm_ite _ _ _ (fun _ => ?_) (fun _ => ?_)
    | split
    | dsimp only)
theorem calm_intToFloat (k : FloatKind) (n : Int) : Calm P (Conv.intToFloat k n) := by
  unfold Conv.intToFloat
  repeat' (first
    | with_reducible exact calm_pure _
    | with_reducible exact calm_stuck _
    | with_reducible exact calm_goPanic _
    | with_reducible exact calm_load _ _
    | with_reducible exact calm_store _ _ _
    | with_reducible exact calm_shape _
    | with_reducible exact calm_frozen _
    | with_reducible exact calm_choose _
    | with_reducible exact calm_program
    | with_reducible exact calm_room
    | with_reducible exact calm_askRoom _
    | with_reducible exact calm_typeInfo _
    | with_reducible exact calm_underlying _
    | with_reducible exact calm_zeroValue _
    | with_reducible exact calm_sizeOf _
    | with_reducible exact calm_isAgg _
    | with_reducible exact calm_loadCellsFrom _ _ _
    | with_reducible exact calm_loadCells _ _
    | with_reducible exact calm_storeCells _ _ _
    | with_reducible exact calm_loadVar _ _
    | with_reducible exact calm_storeVar _ _ _
    | with_reducible exact calm_newRow _ _
    | with_reducible exact calm_newVar _ _
    | with_reducible exact calm_elemOf _
    | with_reducible exact calm_runtimePanic _
    | with_reducible exact calm_boundsPanic _ _ _ _
    | with_reducible exact calm_asIntOf _
    | with_reducible exact calm_asInt _
    | with_reducible exact calm_asBool _
    | with_reducible exact calm_asAddr _
    | with_reducible exact calm_sureAddr _
    | with_reducible exact calm_loadAt _ _
    | with_reducible exact calm_storeAt _ _ _
    | with_reducible exact calm_lenOf _
    | with_reducible exact calm_firstCells _ _ _
    | with_reducible exact calm_holdsCells _ _
    | with_reducible exact calm_mayShare _ _ _ _ _
    | with_reducible exact calm_len _ _ _
    | with_reducible exact calm_indexAt _ _ _
    | with_reducible exact calm_buildSlice _ _ _
    | with_reducible exact calm_makeSlice _ _ _
    | with_reducible exact calm_append _ _ _
    | with_reducible exact calm_typeStr _
    | with_reducible exact calm_part _ _ _
    | with_reducible exact calm_viewAt _
    | with_reducible exact calm_numberAt _
    | with_reducible exact calm_asNumber _ _
    | with_reducible exact calm_behindNumber _
    | with_reducible exact calm_noView _
    | with_reducible exact calm_stringish _
    | with_reducible exact calm_mayBeOne _ _
    | with_reducible exact calm_sameAddr _ _
    | with_reducible exact calm_samePointer _ _
    | with_reducible exact calm_byteOf _
    | with_reducible exact calm_twoPlaces _ _
    | with_reducible exact calm_addrSub _ _ _
    | with_reducible exact calm_addrCmp _ _ _
    | with_reducible exact calm_addrMod _ _ _
    | with_reducible exact calm_unsafeAdd _ _ _
    | with_reducible exact calm_movedNumber _ _ _
    | with_reducible exact calm_movedPointer _ _ _
    | with_reducible exact calm_intArith _ _ _ _
    | with_reducible exact calm_intDiv _ _ _ _
    | with_reducible exact calm_intBits _ _ _ _
    | with_reducible exact calm_intCmp _ _ _
    | with_reducible exact calm_shift _ _ _ _ _
    | with_reducible exact calm_floatArith _ _ _ _
    | with_reducible exact calm_floatCmp _ _ _ _
    | with_reducible exact calm_floatToFloat _ _ _
    | with_reducible exact calm_carith _ _ _ _
    | with_reducible exact calm_ccmp _ _ _ _
    | with_reducible exact calm_cconv _ _ _
    | with_reducible exact calm_cproduct _ _ _ _
    | with_reducible exact calm_ccorrected _ _ _ _ _
    | with_reducible exact calm_cquotient _ _ _ _
    | with_reducible exact calm_complexOp _ _ _ _ _ _
    | with_reducible exact calm_stringOp _ _ _
    | with_reducible exact calm_eqGuardIn _ _ _ _
    | with_reducible exact calm_equalIn _ _ _ _
    | with_reducible exact calm_equal _ _ _
    | with_reducible exact calm_eqGuard _ _ _ _ _ _
    | with_reducible exact calm_binOp _ _ _ _
    | with_reducible exact calm_makeChan _ _
    | with_reducible exact calm_extract _ _
    | with_reducible exact calm_freeze _ _
    | with_reducible exact calm_markStringish _
    | with_reducible exact calm_intToInt _ _
    | ((with_reducible refine calm_unsupported _ ?_); intro _ h; cases h)
    | ((with_reducible refine calm_newObj _ ?_); intro _ _ h; cases h)
    | with_reducible exact calm_map _ _ (calm_choose _)
    | with_reducible refine calm_map _ _ ?_
    | with_reducible refine calm_forIn_arr _ _ (fun _ _ => ?_) _
    | with_reducible refine calm_forIn_range _ _ (fun _ _ => ?_) _
    | with_reducible refine calm_getObj_bind _ _ (fun _ => ?_)
    | with_reducible refine calm_mapM_arr _ _ (fun _ => ?_)
    | with_reducible refine calm_mbind _ _ ?_ (fun _ => ?_)
    | with_reducible refine calm_ite _ _ _ (fun _ => ?_) (fun _ => ?_)
    | split
    | dsimp only)
theorem calm_floatToInt (k : FloatKind) (n : Nat) (l : IntKind) : Calm P (Conv.floatToInt k n l) := by
  unfold Conv.floatToInt
  repeat' (first
    | with_reducible exact calm_pure _
    | with_reducible exact calm_stuck _
    | with_reducible exact calm_goPanic _
    | with_reducible exact calm_load _ _
    | with_reducible exact calm_store _ _ _
    | with_reducible exact calm_shape _
    | with_reducible exact calm_frozen _
    | with_reducible exact calm_choose _
    | with_reducible exact calm_program
    | with_reducible exact calm_room
    | with_reducible exact calm_askRoom _
    | with_reducible exact calm_typeInfo _
    | with_reducible exact calm_underlying _
    | with_reducible exact calm_zeroValue _
    | with_reducible exact calm_sizeOf _
    | with_reducible exact calm_isAgg _
    | with_reducible exact calm_loadCellsFrom _ _ _
    | with_reducible exact calm_loadCells _ _
    | with_reducible exact calm_storeCells _ _ _
    | with_reducible exact calm_loadVar _ _
    | with_reducible exact calm_storeVar _ _ _
    | with_reducible exact calm_newRow _ _
    | with_reducible exact calm_newVar _ _
    | with_reducible exact calm_elemOf _
    | with_reducible exact calm_runtimePanic _
    | with_reducible exact calm_boundsPanic _ _ _ _
    | with_reducible exact calm_asIntOf _
    | with_reducible exact calm_asInt _
    | with_reducible exact calm_asBool _
    | with_reducible exact calm_asAddr _
    | with_reducible exact calm_sureAddr _
    | with_reducible exact calm_loadAt _ _
    | with_reducible exact calm_storeAt _ _ _
    | with_reducible exact calm_lenOf _
    | with_reducible exact calm_firstCells _ _ _
    | with_reducible exact calm_holdsCells _ _
    | with_reducible exact calm_mayShare _ _ _ _ _
    | with_reducible exact calm_len _ _ _
    | with_reducible exact calm_indexAt _ _ _
    | with_reducible exact calm_buildSlice _ _ _
    | with_reducible exact calm_makeSlice _ _ _
    | with_reducible exact calm_append _ _ _
    | with_reducible exact calm_typeStr _
    | with_reducible exact calm_part _ _ _
    | with_reducible exact calm_viewAt _
    | with_reducible exact calm_numberAt _
    | with_reducible exact calm_asNumber _ _
    | with_reducible exact calm_behindNumber _
    | with_reducible exact calm_noView _
    | with_reducible exact calm_stringish _
    | with_reducible exact calm_mayBeOne _ _
    | with_reducible exact calm_sameAddr _ _
    | with_reducible exact calm_samePointer _ _
    | with_reducible exact calm_byteOf _
    | with_reducible exact calm_twoPlaces _ _
    | with_reducible exact calm_addrSub _ _ _
    | with_reducible exact calm_addrCmp _ _ _
    | with_reducible exact calm_addrMod _ _ _
    | with_reducible exact calm_unsafeAdd _ _ _
    | with_reducible exact calm_movedNumber _ _ _
    | with_reducible exact calm_movedPointer _ _ _
    | with_reducible exact calm_intArith _ _ _ _
    | with_reducible exact calm_intDiv _ _ _ _
    | with_reducible exact calm_intBits _ _ _ _
    | with_reducible exact calm_intCmp _ _ _
    | with_reducible exact calm_shift _ _ _ _ _
    | with_reducible exact calm_floatArith _ _ _ _
    | with_reducible exact calm_floatCmp _ _ _ _
    | with_reducible exact calm_floatToFloat _ _ _
    | with_reducible exact calm_carith _ _ _ _
    | with_reducible exact calm_ccmp _ _ _ _
    | with_reducible exact calm_cconv _ _ _
    | with_reducible exact calm_cproduct _ _ _ _
    | with_reducible exact calm_ccorrected _ _ _ _ _
    | with_reducible exact calm_cquotient _ _ _ _
    | with_reducible exact calm_complexOp _ _ _ _ _ _
    | with_reducible exact calm_stringOp _ _ _
    | with_reducible exact calm_eqGuardIn _ _ _ _
    | with_reducible exact calm_equalIn _ _ _ _
    | with_reducible exact calm_equal _ _ _
    | with_reducible exact calm_eqGuard _ _ _ _ _ _
    | with_reducible exact calm_binOp _ _ _ _
    | with_reducible exact calm_makeChan _ _
    | with_reducible exact calm_extract _ _
    | with_reducible exact calm_freeze _ _
    | with_reducible exact calm_markStringish _
    | with_reducible exact calm_intToInt _ _
    | with_reducible exact calm_intToFloat _ _
    | ((with_reducible refine calm_unsupported _ ?_); intro _ h; cases h)
    | ((with_reducible refine calm_newObj _ ?_); intro _ _ h; cases h)
    | with_reducible exact calm_map _ _ (calm_choose _)
    | with_reducible refine calm_map _ _ ?_
    | with_reducible refine calm_forIn_arr _ _ (fun _ _ => ?_) _
    | with_reducible refine calm_forIn_range _ _ (fun _ _ => ?_) _
    | with_reducible refine calm_getObj_bind _ _ (fun _ => ?_)
    | with_reducible refine calm_mapM_arr _ _ (fun _ => ?_)
    | with_reducible refine calm_mbind _ _ ?_ (fun _ => ?_)
    | with_reducible refine calm_ite _ _ _ (fun _ => ?_) (fun _ => ?_)
    | split
    | dsimp only)
theorem calm_complexToComplex (k : FloatKind) (a b : Nat) (l : FloatKind) : Calm P (Conv.complexToComplex k a b l) := by
  unfold Conv.complexToComplex
  repeat' (first
    | with_reducible exact calm_pure _
    | with_reducible exact calm_stuck _
    | with_reducible exact calm_goPanic _
    | with_reducible exact calm_load _ _
    | with_reducible exact calm_store _ _ _
    | with_reducible exact calm_shape _
    | with_reducible exact calm_frozen _
    | with_reducible exact calm_choose _
    | with_reducible exact calm_program
    | with_reducible exact calm_room
    | with_reducible exact calm_askRoom _
    | with_reducible exact calm_typeInfo _
    | with_reducible exact calm_underlying _
    | with_reducible exact calm_zeroValue _
    | with_reducible exact calm_sizeOf _
    | with_reducible exact calm_isAgg _
    | with_reducible exact calm_loadCellsFrom _ _ _
    | with_reducible exact calm_loadCells _ _
    | with_reducible exact calm_storeCells _ _ _
    | with_reducible exact calm_loadVar _ _
    | with_reducible exact calm_storeVar _ _ _
    | with_reducible exact calm_newRow _ _
    | with_reducible exact calm_newVar _ _
    | with_reducible exact calm_elemOf _
    | with_reducible exact calm_runtimePanic _
    | with_reducible exact calm_boundsPanic _ _ _ _
    | with_reducible exact calm_asIntOf _
    | with_reducible exact calm_asInt _
    | with_reducible exact calm_asBool _
    | with_reducible exact calm_asAddr _
    | with_reducible exact calm_sureAddr _
    | with_reducible exact calm_loadAt _ _
    | with_reducible exact calm_storeAt _ _ _
    | with_reducible exact calm_lenOf _
    | with_reducible exact calm_firstCells _ _ _
    | with_reducible exact calm_holdsCells _ _
    | with_reducible exact calm_mayShare _ _ _ _ _
    | with_reducible exact calm_len _ _ _
    | with_reducible exact calm_indexAt _ _ _
    | with_reducible exact calm_buildSlice _ _ _
    | with_reducible exact calm_makeSlice _ _ _
    | with_reducible exact calm_append _ _ _
    | with_reducible exact calm_typeStr _
    | with_reducible exact calm_part _ _ _
    | with_reducible exact calm_viewAt _
    | with_reducible exact calm_numberAt _
    | with_reducible exact calm_asNumber _ _
    | with_reducible exact calm_behindNumber _
    | with_reducible exact calm_noView _
    | with_reducible exact calm_stringish _
    | with_reducible exact calm_mayBeOne _ _
    | with_reducible exact calm_sameAddr _ _
    | with_reducible exact calm_samePointer _ _
    | with_reducible exact calm_byteOf _
    | with_reducible exact calm_twoPlaces _ _
    | with_reducible exact calm_addrSub _ _ _
    | with_reducible exact calm_addrCmp _ _ _
    | with_reducible exact calm_addrMod _ _ _
    | with_reducible exact calm_unsafeAdd _ _ _
    | with_reducible exact calm_movedNumber _ _ _
    | with_reducible exact calm_movedPointer _ _ _
    | with_reducible exact calm_intArith _ _ _ _
    | with_reducible exact calm_intDiv _ _ _ _
    | with_reducible exact calm_intBits _ _ _ _
    | with_reducible exact calm_intCmp _ _ _
    | with_reducible exact calm_shift _ _ _ _ _
    | with_reducible exact calm_floatArith _ _ _ _
    | with_reducible exact calm_floatCmp _ _ _ _
    | with_reducible exact calm_floatToFloat _ _ _
    | with_reducible exact calm_carith _ _ _ _
    | with_reducible exact calm_ccmp _ _ _ _
    | with_reducible exact calm_cconv _ _ _
    | with_reducible exact calm_cproduct _ _ _ _
    | with_reducible exact calm_ccorrected _ _ _ _ _
    | with_reducible exact calm_cquotient _ _ _ _
    | with_reducible exact calm_complexOp _ _ _ _ _ _
    | with_reducible exact calm_stringOp _ _ _
    | with_reducible exact calm_eqGuardIn _ _ _ _
    | with_reducible exact calm_equalIn _ _ _ _
    | with_reducible exact calm_equal _ _ _
    | with_reducible exact calm_eqGuard _ _ _ _ _ _
    | with_reducible exact calm_binOp _ _ _ _
    | with_reducible exact calm_makeChan _ _
    | with_reducible exact calm_extract _ _
    | with_reducible exact calm_freeze _ _
    | with_reducible exact calm_markStringish _
    | with_reducible exact calm_intToInt _ _
    | with_reducible exact calm_intToFloat _ _
    | with_reducible exact calm_floatToInt _ _ _
    | ((with_reducible refine calm_unsupported _ ?_); intro _ h; cases h)
    | ((with_reducible refine calm_newObj _ ?_); intro _ _ h; cases h)
    | with_reducible exact calm_map _ _ (calm_choose _)
    | with_reducible refine calm_map _ _ ?_
    | with_reducible refine calm_forIn_arr _ _ (fun _ _ => ?_) _
    | with_reducible refine calm_forIn_range _ _ (fun _ _ => ?_) _
    | with_reducible refine calm_getObj_bind _ _ (fun _ => ?_)
    | with_reducible refine calm_mapM_arr _ _ (fun _ => ?_)
    | with_reducible refine calm_mbind _ _ ?_ (fun _ => ?_)
    | with_reducible refine calm_ite _ _ _ (fun _ => ?_) (fun _ => ?_)
    | split
    | dsimp only)
theorem calm_intToString (n : Int) : Calm P (Conv.intToString n) := by
  unfold Conv.intToString
  repeat' (first
    | with_reducible exact calm_pure _
    | with_reducible exact calm_stuck _
    | with_reducible exact calm_goPanic _
    | with_reducible exact calm_load _ _
    | with_reducible exact calm_store _ _ _
    | with_reducible exact calm_shape _
    | with_reducible exact calm_frozen _
    | with_reducible exact calm_choose _
    | with_reducible exact calm_program
    | with_reducible exact calm_room
    | with_reducible exact calm_askRoom _
    | with_reducible exact calm_typeInfo _
    | with_reducible exact calm_underlying _
    | with_reducible exact calm_zeroValue _
    | with_reducible exact calm_sizeOf _
    | with_reducible exact calm_isAgg _
    | with_reducible exact calm_loadCellsFrom _ _ _
    | with_reducible exact calm_loadCells _ _
    | with_reducible exact calm_storeCells _ _ _
    | with_reducible exact calm_loadVar _ _
    | with_reducible exact calm_storeVar _ _ _
    | with_reducible exact calm_newRow _ _
    | with_reducible exact calm_newVar _ _
    | with_reducible exact calm_elemOf _
    | with_reducible exact calm_runtimePanic _
    | with_reducible exact calm_boundsPanic _ _ _ _
    | with_reducible exact calm_asIntOf _
    | with_reducible exact calm_asInt _
    | with_reducible exact calm_asBool _
    | with_reducible exact calm_asAddr _
    | with_reducible exact calm_sureAddr _
    | with_reducible exact calm_loadAt _ _
    | with_reducible exact calm_storeAt _ _ _
    | with_reducible exact calm_lenOf _
    | with_reducible exact calm_firstCells _ _ _
    | with_reducible exact calm_holdsCells _ _
    | with_reducible exact calm_mayShare _ _ _ _ _
    | with_reducible exact calm_len _ _ _
    | with_reducible exact calm_indexAt _ _ _
    | with_reducible exact calm_buildSlice _ _ _
    | with_reducible exact calm_makeSlice _ _ _
    | with_reducible exact calm_append _ _ _
    | with_reducible exact calm_typeStr _
    | with_reducible exact calm_part _ _ _
    | with_reducible exact calm_viewAt _
    | with_reducible exact calm_numberAt _
    | with_reducible exact calm_asNumber _ _
    | with_reducible exact calm_behindNumber _
    | with_reducible exact calm_noView _
    | with_reducible exact calm_stringish _
    | with_reducible exact calm_mayBeOne _ _
    | with_reducible exact calm_sameAddr _ _
    | with_reducible exact calm_samePointer _ _
    | with_reducible exact calm_byteOf _
    | with_reducible exact calm_twoPlaces _ _
    | with_reducible exact calm_addrSub _ _ _
    | with_reducible exact calm_addrCmp _ _ _
    | with_reducible exact calm_addrMod _ _ _
    | with_reducible exact calm_unsafeAdd _ _ _
    | with_reducible exact calm_movedNumber _ _ _
    | with_reducible exact calm_movedPointer _ _ _
    | with_reducible exact calm_intArith _ _ _ _
    | with_reducible exact calm_intDiv _ _ _ _
    | with_reducible exact calm_intBits _ _ _ _
    | with_reducible exact calm_intCmp _ _ _
    | with_reducible exact calm_shift _ _ _ _ _
    | with_reducible exact calm_floatArith _ _ _ _
    | with_reducible exact calm_floatCmp _ _ _ _
    | with_reducible exact calm_floatToFloat _ _ _
    | with_reducible exact calm_carith _ _ _ _
    | with_reducible exact calm_ccmp _ _ _ _
    | with_reducible exact calm_cconv _ _ _
    | with_reducible exact calm_cproduct _ _ _ _
    | with_reducible exact calm_ccorrected _ _ _ _ _
    | with_reducible exact calm_cquotient _ _ _ _
    | with_reducible exact calm_complexOp _ _ _ _ _ _
    | with_reducible exact calm_stringOp _ _ _
    | with_reducible exact calm_eqGuardIn _ _ _ _
    | with_reducible exact calm_equalIn _ _ _ _
    | with_reducible exact calm_equal _ _ _
    | with_reducible exact calm_eqGuard _ _ _ _ _ _
    | with_reducible exact calm_binOp _ _ _ _
    | with_reducible exact calm_makeChan _ _
    | with_reducible exact calm_extract _ _
    | with_reducible exact calm_freeze _ _
    | with_reducible exact calm_markStringish _
    | with_reducible exact calm_intToInt _ _
    | with_reducible exact calm_intToFloat _ _
    | with_reducible exact calm_floatToInt _ _ _
    | with_reducible exact calm_complexToComplex _ _ _ _
    | ((with_reducible refine calm_unsupported _ ?_); intro _ h; cases h)
    | ((with_reducible refine calm_newObj _ ?_); intro _ _ h; cases h)
    | with_reducible exact calm_map _ _ (calm_choose _)
    | with_reducible refine calm_map _ _ ?_
    | with_reducible refine calm_forIn_arr _ _ (fun _ _ => ?_) _
    | with_reducible refine calm_forIn_range _ _ (fun _ _ => ?_) _
    | with_reducible refine calm_getObj_bind _ _ (fun _ => ?_)
    | with_reducible refine calm_mapM_arr _ _ (fun _ => ?_)
    | with_reducible refine calm_mbind _ _ ?_ (fun _ => ?_)
    | with_reducible refine calm_ite _ _ _ (fun _ => ?_) (fun _ => ?_)
    | split
    | dsimp only)
theorem calm_stringToBytes (t : TypeId) (s : ByteArray) : Calm P (Conv.stringToBytes t s) := by
  unfold Conv.stringToBytes
  repeat' (first
    | with_reducible exact calm_pure _
    | with_reducible exact calm_stuck _
    | with_reducible exact calm_goPanic _
    | with_reducible exact calm_load _ _
    | with_reducible exact calm_store _ _ _
    | with_reducible exact calm_shape _
    | with_reducible exact calm_frozen _
    | with_reducible exact calm_choose _
    | with_reducible exact calm_program
    | with_reducible exact calm_room
    | with_reducible exact calm_askRoom _
    | with_reducible exact calm_typeInfo _
    | with_reducible exact calm_underlying _
    | with_reducible exact calm_zeroValue _
    | with_reducible exact calm_sizeOf _
    | with_reducible exact calm_isAgg _
    | with_reducible exact calm_loadCellsFrom _ _ _
    | with_reducible exact calm_loadCells _ _
    | with_reducible exact calm_storeCells _ _ _
    | with_reducible exact calm_loadVar _ _
    | with_reducible exact calm_storeVar _ _ _
    | with_reducible exact calm_newRow _ _
    | with_reducible exact calm_newVar _ _
    | with_reducible exact calm_elemOf _
    | with_reducible exact calm_runtimePanic _
    | with_reducible exact calm_boundsPanic _ _ _ _
    | with_reducible exact calm_asIntOf _
    | with_reducible exact calm_asInt _
    | with_reducible exact calm_asBool _
    | with_reducible exact calm_asAddr _
    | with_reducible exact calm_sureAddr _
    | with_reducible exact calm_loadAt _ _
    | with_reducible exact calm_storeAt _ _ _
    | with_reducible exact calm_lenOf _
    | with_reducible exact calm_firstCells _ _ _
    | with_reducible exact calm_holdsCells _ _
    | with_reducible exact calm_mayShare _ _ _ _ _
    | with_reducible exact calm_len _ _ _
    | with_reducible exact calm_indexAt _ _ _
    | with_reducible exact calm_buildSlice _ _ _
    | with_reducible exact calm_makeSlice _ _ _
    | with_reducible exact calm_append _ _ _
    | with_reducible exact calm_typeStr _
    | with_reducible exact calm_part _ _ _
    | with_reducible exact calm_viewAt _
    | with_reducible exact calm_numberAt _
    | with_reducible exact calm_asNumber _ _
    | with_reducible exact calm_behindNumber _
    | with_reducible exact calm_noView _
    | with_reducible exact calm_stringish _
    | with_reducible exact calm_mayBeOne _ _
    | with_reducible exact calm_sameAddr _ _
    | with_reducible exact calm_samePointer _ _
    | with_reducible exact calm_byteOf _
    | with_reducible exact calm_twoPlaces _ _
    | with_reducible exact calm_addrSub _ _ _
    | with_reducible exact calm_addrCmp _ _ _
    | with_reducible exact calm_addrMod _ _ _
    | with_reducible exact calm_unsafeAdd _ _ _
    | with_reducible exact calm_movedNumber _ _ _
    | with_reducible exact calm_movedPointer _ _ _
    | with_reducible exact calm_intArith _ _ _ _
    | with_reducible exact calm_intDiv _ _ _ _
    | with_reducible exact calm_intBits _ _ _ _
    | with_reducible exact calm_intCmp _ _ _
    | with_reducible exact calm_shift _ _ _ _ _
    | with_reducible exact calm_floatArith _ _ _ _
    | with_reducible exact calm_floatCmp _ _ _ _
    | with_reducible exact calm_floatToFloat _ _ _
    | with_reducible exact calm_carith _ _ _ _
    | with_reducible exact calm_ccmp _ _ _ _
    | with_reducible exact calm_cconv _ _ _
    | with_reducible exact calm_cproduct _ _ _ _
    | with_reducible exact calm_ccorrected _ _ _ _ _
    | with_reducible exact calm_cquotient _ _ _ _
    | with_reducible exact calm_complexOp _ _ _ _ _ _
    | with_reducible exact calm_stringOp _ _ _
    | with_reducible exact calm_eqGuardIn _ _ _ _
    | with_reducible exact calm_equalIn _ _ _ _
    | with_reducible exact calm_equal _ _ _
    | with_reducible exact calm_eqGuard _ _ _ _ _ _
    | with_reducible exact calm_binOp _ _ _ _
    | with_reducible exact calm_makeChan _ _
    | with_reducible exact calm_extract _ _
    | with_reducible exact calm_freeze _ _
    | with_reducible exact calm_markStringish _
    | with_reducible exact calm_intToInt _ _
    | with_reducible exact calm_intToFloat _ _
    | with_reducible exact calm_floatToInt _ _ _
    | with_reducible exact calm_complexToComplex _ _ _ _
    | with_reducible exact calm_intToString _
    | ((with_reducible refine calm_unsupported _ ?_); intro _ h; cases h)
    | ((with_reducible refine calm_newObj _ ?_); intro _ _ h; cases h)
    | with_reducible exact calm_map _ _ (calm_choose _)
    | with_reducible refine calm_map _ _ ?_
    | with_reducible refine calm_forIn_arr _ _ (fun _ _ => ?_) _
    | with_reducible refine calm_forIn_range _ _ (fun _ _ => ?_) _
    | with_reducible refine calm_getObj_bind _ _ (fun _ => ?_)
    | with_reducible refine calm_mapM_arr _ _ (fun _ => ?_)
    | with_reducible refine calm_mbind _ _ ?_ (fun _ => ?_)
    | with_reducible refine calm_ite _ _ _ (fun _ => ?_) (fun _ => ?_)
    | split
    | dsimp only)
theorem calm_stringToRunes (t : TypeId) (s : ByteArray) : Calm P (Conv.stringToRunes t s) := by
  unfold Conv.stringToRunes
  repeat' (first
    | with_reducible exact calm_pure _
    | with_reducible exact calm_stuck _
    | with_reducible exact calm_goPanic _
    | with_reducible exact calm_load _ _
    | with_reducible exact calm_store _ _ _
    | with_reducible exact calm_shape _
    | with_reducible exact calm_frozen _
    | with_reducible exact calm_choose _
    | with_reducible exact calm_program
    | with_reducible exact calm_room
    | with_reducible exact calm_askRoom _
    | with_reducible exact calm_typeInfo _
    | with_reducible exact calm_underlying _
    | with_reducible exact calm_zeroValue _
    | with_reducible exact calm_sizeOf _
    | with_reducible exact calm_isAgg _
    | with_reducible exact calm_loadCellsFrom _ _ _
    | with_reducible exact calm_loadCells _ _
    | with_reducible exact calm_storeCells _ _ _
    | with_reducible exact calm_loadVar _ _
    | with_reducible exact calm_storeVar _ _ _
    | with_reducible exact calm_newRow _ _
    | with_reducible exact calm_newVar _ _
    | with_reducible exact calm_elemOf _
    | with_reducible exact calm_runtimePanic _
    | with_reducible exact calm_boundsPanic _ _ _ _
    | with_reducible exact calm_asIntOf _
    | with_reducible exact calm_asInt _
    | with_reducible exact calm_asBool _
    | with_reducible exact calm_asAddr _
    | with_reducible exact calm_sureAddr _
    | with_reducible exact calm_loadAt _ _
    | with_reducible exact calm_storeAt _ _ _
    | with_reducible exact calm_lenOf _
    | with_reducible exact calm_firstCells _ _ _
    | with_reducible exact calm_holdsCells _ _
    | with_reducible exact calm_mayShare _ _ _ _ _
    | with_reducible exact calm_len _ _ _
    | with_reducible exact calm_indexAt _ _ _
    | with_reducible exact calm_buildSlice _ _ _
    | with_reducible exact calm_makeSlice _ _ _
    | with_reducible exact calm_append _ _ _
    | with_reducible exact calm_typeStr _
    | with_reducible exact calm_part _ _ _
    | with_reducible exact calm_viewAt _
    | with_reducible exact calm_numberAt _
    | with_reducible exact calm_asNumber _ _
    | with_reducible exact calm_behindNumber _
    | with_reducible exact calm_noView _
    | with_reducible exact calm_stringish _
    | with_reducible exact calm_mayBeOne _ _
    | with_reducible exact calm_sameAddr _ _
    | with_reducible exact calm_samePointer _ _
    | with_reducible exact calm_byteOf _
    | with_reducible exact calm_twoPlaces _ _
    | with_reducible exact calm_addrSub _ _ _
    | with_reducible exact calm_addrCmp _ _ _
    | with_reducible exact calm_addrMod _ _ _
    | with_reducible exact calm_unsafeAdd _ _ _
    | with_reducible exact calm_movedNumber _ _ _
    | with_reducible exact calm_movedPointer _ _ _
    | with_reducible exact calm_intArith _ _ _ _
    | with_reducible exact calm_intDiv _ _ _ _
    | with_reducible exact calm_intBits _ _ _ _
    | with_reducible exact calm_intCmp _ _ _
    | with_reducible exact calm_shift _ _ _ _ _
    | with_reducible exact calm_floatArith _ _ _ _
    | with_reducible exact calm_floatCmp _ _ _ _
    | with_reducible exact calm_floatToFloat _ _ _
    | with_reducible exact calm_carith _ _ _ _
    | with_reducible exact calm_ccmp _ _ _ _
    | with_reducible exact calm_cconv _ _ _
    | with_reducible exact calm_cproduct _ _ _ _
    | with_reducible exact calm_ccorrected _ _ _ _ _
    | with_reducible exact calm_cquotient _ _ _ _
    | with_reducible exact calm_complexOp _ _ _ _ _ _
    | with_reducible exact calm_stringOp _ _ _
    | with_reducible exact calm_eqGuardIn _ _ _ _
    | with_reducible exact calm_equalIn _ _ _ _
    | with_reducible exact calm_equal _ _ _
    | with_reducible exact calm_eqGuard _ _ _ _ _ _
    | with_reducible exact calm_binOp _ _ _ _
    | with_reducible exact calm_makeChan _ _
    | with_reducible exact calm_extract _ _
    | with_reducible exact calm_freeze _ _
    | with_reducible exact calm_markStringish _
    | with_reducible exact calm_intToInt _ _
    | with_reducible exact calm_intToFloat _ _
    | with_reducible exact calm_floatToInt _ _ _
    | with_reducible exact calm_complexToComplex _ _ _ _
    | with_reducible exact calm_intToString _
    | with_reducible exact calm_stringToBytes _ _
    | ((with_reducible refine calm_unsupported _ ?_); intro _ h; cases h)
    | ((with_reducible refine calm_newObj _ ?_); intro _ _ h; cases h)
    | with_reducible exact calm_map _ _ (calm_choose _)
    | with_reducible refine calm_map _ _ ?_
    | with_reducible refine calm_forIn_arr _ _ (fun _ _ => ?_) _
    | with_reducible refine calm_forIn_range _ _ (fun _ _ => ?_) _
    | with_reducible refine calm_getObj_bind _ _ (fun _ => ?_)
    | with_reducible refine calm_mapM_arr _ _ (fun _ => ?_)
    | with_reducible refine calm_mbind _ _ ?_ (fun _ => ?_)
    | with_reducible refine calm_ite _ _ _ (fun _ => ?_) (fun _ => ?_)
    | split
    | dsimp only)
theorem calm_bytesToString (x : Value) : Calm P (Conv.bytesToString x) := by
  unfold Conv.bytesToString
  repeat' (first
    | with_reducible exact calm_pure _
    | with_reducible exact calm_stuck _
    | with_reducible exact calm_goPanic _
    | with_reducible exact calm_load _ _
    | with_reducible exact calm_store _ _ _
    | with_reducible exact calm_shape _
    | with_reducible exact calm_frozen _
    | with_reducible exact calm_choose _
    | with_reducible exact calm_program
    | with_reducible exact calm_room
    | with_reducible exact calm_askRoom _
    | with_reducible exact calm_typeInfo _
    | with_reducible exact calm_underlying _
    | with_reducible exact calm_zeroValue _
    | with_reducible exact calm_sizeOf _
    | with_reducible exact calm_isAgg _
    | with_reducible exact calm_loadCellsFrom _ _ _
    | with_reducible exact calm_loadCells _ _
    | with_reducible exact calm_storeCells _ _ _
    | with_reducible exact calm_loadVar _ _
    | with_reducible exact calm_storeVar _ _ _
    | with_reducible exact calm_newRow _ _
    | with_reducible exact calm_newVar _ _
    | with_reducible exact calm_elemOf _
    | with_reducible exact calm_runtimePanic _
    | with_reducible exact calm_boundsPanic _ _ _ _
    | with_reducible exact calm_asIntOf _
    | with_reducible exact calm_asInt _
    | with_reducible exact calm_asBool _
    | with_reducible exact calm_asAddr _
    | with_reducible exact calm_sureAddr _
    | with_reducible exact calm_loadAt _ _
    | with_reducible exact calm_storeAt _ _ _
    | with_reducible exact calm_lenOf _
    | with_reducible exact calm_firstCells _ _ _
    | with_reducible exact calm_holdsCells _ _
    | with_reducible exact calm_mayShare _ _ _ _ _
    | with_reducible exact calm_len _ _ _
    | with_reducible exact calm_indexAt _ _ _
    | with_reducible exact calm_buildSlice _ _ _
    | with_reducible exact calm_makeSlice _ _ _
    | with_reducible exact calm_append _ _ _
    | with_reducible exact calm_typeStr _
    | with_reducible exact calm_part _ _ _
    | with_reducible exact calm_viewAt _
    | with_reducible exact calm_numberAt _
    | with_reducible exact calm_asNumber _ _
    | with_reducible exact calm_behindNumber _
    | with_reducible exact calm_noView _
    | with_reducible exact calm_stringish _
    | with_reducible exact calm_mayBeOne _ _
    | with_reducible exact calm_sameAddr _ _
    | with_reducible exact calm_samePointer _ _
    | with_reducible exact calm_byteOf _
    | with_reducible exact calm_twoPlaces _ _
    | with_reducible exact calm_addrSub _ _ _
    | with_reducible exact calm_addrCmp _ _ _
    | with_reducible exact calm_addrMod _ _ _
    | with_reducible exact calm_unsafeAdd _ _ _
    | with_reducible exact calm_movedNumber _ _ _
    | with_reducible exact calm_movedPointer _ _ _
    | with_reducible exact calm_intArith _ _ _ _
    | with_reducible exact calm_intDiv _ _ _ _
    | with_reducible exact calm_intBits _ _ _ _
    | with_reducible exact calm_intCmp _ _ _
    | with_reducible exact calm_shift _ _ _ _ _
    | with_reducible exact calm_floatArith _ _ _ _
    | with_reducible exact calm_floatCmp _ _ _ _
    | with_reducible exact calm_floatToFloat _ _ _
    | with_reducible exact calm_carith _ _ _ _
    | with_reducible exact calm_ccmp _ _ _ _
    | with_reducible exact calm_cconv _ _ _
    | with_reducible exact calm_cproduct _ _ _ _
    | with_reducible exact calm_ccorrected _ _ _ _ _
    | with_reducible exact calm_cquotient _ _ _ _
    | with_reducible exact calm_complexOp _ _ _ _ _ _
    | with_reducible exact calm_stringOp _ _ _
    | with_reducible exact calm_eqGuardIn _ _ _ _
    | with_reducible exact calm_equalIn _ _ _ _
    | with_reducible exact calm_equal _ _ _
    | with_reducible exact calm_eqGuard _ _ _ _ _ _
    | with_reducible exact calm_binOp _ _ _ _
    | with_reducible exact calm_makeChan _ _
    | with_reducible exact calm_extract _ _
    | with_reducible exact calm_freeze _ _
    | with_reducible exact calm_markStringish _
    | with_reducible exact calm_intToInt _ _
    | with_reducible exact calm_intToFloat _ _
    | with_reducible exact calm_floatToInt _ _ _
    | with_reducible exact calm_complexToComplex _ _ _ _
    | with_reducible exact calm_intToString _
    | with_reducible exact calm_stringToBytes _ _
    | with_reducible exact calm_stringToRunes _ _
    | ((with_reducible refine calm_unsupported _ ?_); intro _ h; cases h)
    | ((with_reducible refine calm_newObj _ ?_); intro _ _ h; cases h)
    | with_reducible exact calm_map _ _ (calm_choose _)
    | with_reducible refine calm_map _ _ ?_
    | with_reducible refine calm_forIn_arr _ _ (fun _ _ => ?_) _
    | with_reducible refine calm_forIn_range _ _ (fun _ _ => ?_) _
    | with_reducible refine calm_getObj_bind _ _ (fun _ => ?_)
    | with_reducible refine calm_mapM_arr _ _ (fun _ => ?_)
    | with_reducible refine calm_mbind _ _ ?_ (fun _ => ?_)
    | with_reducible refine calm_ite _ _ _ (fun _ => ?_) (fun _ => ?_)
    | split
    | dsimp only)
theorem calm_runesToString (x : Value) : Calm P (Conv.runesToString x) := by
  unfold Conv.runesToString
  repeat' (first
    | with_reducible exact calm_pure _
    | with_reducible exact calm_stuck _
    | with_reducible exact calm_goPanic _
    | with_reducible exact calm_load _ _
    | with_reducible exact calm_store _ _ _
    | with_reducible exact calm_shape _
    | with_reducible exact calm_frozen _
    | with_reducible exact calm_choose _
    | with_reducible exact calm_program
    | with_reducible exact calm_room
    | with_reducible exact calm_askRoom _
    | with_reducible exact calm_typeInfo _
    | with_reducible exact calm_underlying _
    | with_reducible exact calm_zeroValue _
    | with_reducible exact calm_sizeOf _
    | with_reducible exact calm_isAgg _
    | with_reducible exact calm_loadCellsFrom _ _ _
    | with_reducible exact calm_loadCells _ _
    | with_reducible exact calm_storeCells _ _ _
    | with_reducible exact calm_loadVar _ _
    | with_reducible exact calm_storeVar _ _ _
    | with_reducible exact calm_newRow _ _
    | with_reducible exact calm_newVar _ _
    | with_reducible exact calm_elemOf _
    | with_reducible exact calm_runtimePanic _
    | with_reducible exact calm_boundsPanic _ _ _ _
    | with_reducible exact calm_asIntOf _
    | with_reducible exact calm_asInt _
    | with_reducible exact calm_asBool _
    | with_reducible exact calm_asAddr _
    | with_reducible exact calm_sureAddr _
    | with_reducible exact calm_loadAt _ _
    | with_reducible exact calm_storeAt _ _ _
    | with_reducible exact calm_lenOf _
    | with_reducible exact calm_firstCells _ _ _
    | with_reducible exact calm_holdsCells _ _
    | with_reducible exact calm_mayShare _ _ _ _ _
    | with_reducible exact calm_len _ _ _
    | with_reducible exact calm_indexAt _ _ _
    | with_reducible exact calm_buildSlice _ _ _
    | with_reducible exact calm_makeSlice _ _ _
    | with_reducible exact calm_append _ _ _
    | with_reducible exact calm_typeStr _
    | with_reducible exact calm_part _ _ _
    | with_reducible exact calm_viewAt _
    | with_reducible exact calm_numberAt _
    | with_reducible exact calm_asNumber _ _
    | with_reducible exact calm_behindNumber _
    | with_reducible exact calm_noView _
    | with_reducible exact calm_stringish _
    | with_reducible exact calm_mayBeOne _ _
    | with_reducible exact calm_sameAddr _ _
    | with_reducible exact calm_samePointer _ _
    | with_reducible exact calm_byteOf _
    | with_reducible exact calm_twoPlaces _ _
    | with_reducible exact calm_addrSub _ _ _
    | with_reducible exact calm_addrCmp _ _ _
    | with_reducible exact calm_addrMod _ _ _
    | with_reducible exact calm_unsafeAdd _ _ _
    | with_reducible exact calm_movedNumber _ _ _
    | with_reducible exact calm_movedPointer _ _ _
    | with_reducible exact calm_intArith _ _ _ _
    | with_reducible exact calm_intDiv _ _ _ _
    | with_reducible exact calm_intBits _ _ _ _
    | with_reducible exact calm_intCmp _ _ _
    | with_reducible exact calm_shift _ _ _ _ _
    | with_reducible exact calm_floatArith _ _ _ _
    | with_reducible exact calm_floatCmp _ _ _ _
    | with_reducible exact calm_floatToFloat _ _ _
    | with_reducible exact calm_carith _ _ _ _
    | with_reducible exact calm_ccmp _ _ _ _
    | with_reducible exact calm_cconv _ _ _
    | with_reducible exact calm_cproduct _ _ _ _
    | with_reducible exact calm_ccorrected _ _ _ _ _
    | with_reducible exact calm_cquotient _ _ _ _
    | with_reducible exact calm_complexOp _ _ _ _ _ _
    | with_reducible exact calm_stringOp _ _ _
    | with_reducible exact calm_eqGuardIn _ _ _ _
    | with_reducible exact calm_equalIn _ _ _ _
    | with_reducible exact calm_equal _ _ _
    | with_reducible exact calm_eqGuard _ _ _ _ _ _
    | with_reducible exact calm_binOp _ _ _ _
    | with_reducible exact calm_makeChan _ _
    | with_reducible exact calm_extract _ _
    | with_reducible exact calm_freeze _ _
    | with_reducible exact calm_markStringish _
    | with_reducible exact calm_intToInt _ _
    | with_reducible exact calm_intToFloat _ _
    | with_reducible exact calm_floatToInt _ _ _
    | with_reducible exact calm_complexToComplex _ _ _ _
    | with_reducible exact calm_intToString _
    | with_reducible exact calm_stringToBytes _ _
    | with_reducible exact calm_stringToRunes _ _
    | with_reducible exact calm_bytesToString _
    | ((with_reducible refine calm_unsupported _ ?_); intro _ h; cases h)
    | ((with_reducible refine calm_newObj _ ?_); intro _ _ h; cases h)
    | with_reducible exact calm_map _ _ (calm_choose _)
    | with_reducible refine calm_map _ _ ?_
    | with_reducible refine calm_forIn_arr _ _ (fun _ _ => ?_) _
    | with_reducible refine calm_forIn_range _ _ (fun _ _ => ?_) _
    | with_reducible refine calm_getObj_bind _ _ (fun _ => ?_)
    | with_reducible refine calm_mapM_arr _ _ (fun _ => ?_)
    | with_reducible refine calm_mbind _ _ ?_ (fun _ => ?_)
    | with_reducible refine calm_ite _ _ _ (fun _ => ?_) (fun _ => ?_)
    | split
    | dsimp only)
theorem calm_seenAt (a : Addr) : Calm P (Conv.seenAt a) := by
  unfold Conv.seenAt
  repeat' (first
    | with_reducible exact calm_pure _
    | with_reducible exact calm_stuck _
    | with_reducible exact calm_goPanic _
    | with_reducible exact calm_load _ _
    | with_reducible exact calm_store _ _ _
    | with_reducible exact calm_shape _
    | with_reducible exact calm_frozen _
    | with_reducible exact calm_choose _
    | with_reducible exact calm_program
    | with_reducible exact calm_room
    | with_reducible exact calm_askRoom _
    | with_reducible exact calm_typeInfo _
    | with_reducible exact calm_underlying _
    | with_reducible exact calm_zeroValue _
    | with_reducible exact calm_sizeOf _
    | with_reducible exact calm_isAgg _
    | with_reducible exact calm_loadCellsFrom _ _ _
    | with_reducible exact calm_loadCells _ _
    | with_reducible exact calm_storeCells _ _ _
    | with_reducible exact calm_loadVar _ _
    | with_reducible exact calm_storeVar _ _ _
    | with_reducible exact calm_newRow _ _
    | with_reducible exact calm_newVar _ _
    | with_reducible exact calm_elemOf _
    | with_reducible exact calm_runtimePanic _
    | with_reducible exact calm_boundsPanic _ _ _ _
    | with_reducible exact calm_asIntOf _
    | with_reducible exact calm_asInt _
    | with_reducible exact calm_asBool _
    | with_reducible exact calm_asAddr _
    | with_reducible exact calm_sureAddr _
    | with_reducible exact calm_loadAt _ _
    | with_reducible exact calm_storeAt _ _ _
    | with_reducible exact calm_lenOf _
    | with_reducible exact calm_firstCells _ _ _
    | with_reducible exact calm_holdsCells _ _
    | with_reducible exact calm_mayShare _ _ _ _ _
    | with_reducible exact calm_len _ _ _
    | with_reducible exact calm_indexAt _ _ _
    | with_reducible exact calm_buildSlice _ _ _
    | with_reducible exact calm_makeSlice _ _ _
    | with_reducible exact calm_append _ _ _
    | with_reducible exact calm_typeStr _
    | with_reducible exact calm_part _ _ _
    | with_reducible exact calm_viewAt _
    | with_reducible exact calm_numberAt _
    | with_reducible exact calm_asNumber _ _
    | with_reducible exact calm_behindNumber _
    | with_reducible exact calm_noView _
    | with_reducible exact calm_stringish _
    | with_reducible exact calm_mayBeOne _ _
    | with_reducible exact calm_sameAddr _ _
    | with_reducible exact calm_samePointer _ _
    | with_reducible exact calm_byteOf _
    | with_reducible exact calm_twoPlaces _ _
    | with_reducible exact calm_addrSub _ _ _
    | with_reducible exact calm_addrCmp _ _ _
    | with_reducible exact calm_addrMod _ _ _
    | with_reducible exact calm_unsafeAdd _ _ _
    | with_reducible exact calm_movedNumber _ _ _
    | with_reducible exact calm_movedPointer _ _ _
    | with_reducible exact calm_intArith _ _ _ _
    | with_reducible exact calm_intDiv _ _ _ _
    | with_reducible exact calm_intBits _ _ _ _
    | with_reducible exact calm_intCmp _ _ _
    | with_reducible exact calm_shift _ _ _ _ _
    | with_reducible exact calm_floatArith _ _ _ _
    | with_reducible exact calm_floatCmp _ _ _ _
    | with_reducible exact calm_floatToFloat _ _ _
    | with_reducible exact calm_carith _ _ _ _
    | with_reducible exact calm_ccmp _ _ _ _
    | with_reducible exact calm_cconv _ _ _
    | with_reducible exact calm_cproduct _ _ _ _
    | with_reducible exact calm_ccorrected _ _ _ _ _
    | with_reducible exact calm_cquotient _ _ _ _
    | with_reducible exact calm_complexOp _ _ _ _ _ _
    | with_reducible exact calm_stringOp _ _ _
    | with_reducible exact calm_eqGuardIn _ _ _ _
    | with_reducible exact calm_equalIn _ _ _ _
    | with_reducible exact calm_equal _ _ _
    | with_reducible exact calm_eqGuard _ _ _ _ _ _
    | with_reducible exact calm_binOp _ _ _ _
    | with_reducible exact calm_makeChan _ _
    | with_reducible exact calm_extract _ _
    | with_reducible exact calm_freeze _ _
    | with_reducible exact calm_markStringish _
    | with_reducible exact calm_intToInt _ _
    | with_reducible exact calm_intToFloat _ _
    | with_reducible exact calm_floatToInt _ _ _
    | with_reducible exact calm_complexToComplex _ _ _ _
    | with_reducible exact calm_intToString _
    | with_reducible exact calm_stringToBytes _ _
    | with_reducible exact calm_stringToRunes _ _
    | with_reducible exact calm_bytesToString _
    | with_reducible exact calm_runesToString _
    | ((with_reducible refine calm_unsupported _ ?_); intro _ h; cases h)
    | ((with_reducible refine calm_newObj _ ?_); intro _ _ h; cases h)
    | with_reducible exact calm_map _ _ (calm_choose _)
    | with_reducible refine calm_map _ _ ?_
    | with_reducible refine calm_forIn_arr _ _ (fun _ _ => ?_) _
    | with_reducible refine calm_forIn_range _ _ (fun _ _ => ?_) _
    | with_reducible refine calm_getObj_bind _ _ (fun _ => ?_)
    | with_reducible refine calm_mapM_arr _ _ (fun _ => ?_)
    | with_reducible refine calm_mbind _ _ ?_ (fun _ => ?_)
    | with_reducible refine calm_ite _ _ _ (fun _ => ?_) (fun _ => ?_)
    | split
    | dsimp only)
theorem calm_cellsIn (r : Nat) : Calm P (cellsIn r) := by
  unfold cellsIn
  repeat' (first
    | with_reducible exact calm_pure _
    | with_reducible exact calm_stuck _
    | with_reducible exact calm_goPanic _
    | with_reducible exact calm_load _ _
    | with_reducible exact calm_store _ _ _
    | with_reducible exact calm_shape _
    | with_reducible exact calm_frozen _
    | with_reducible exact calm_choose _
    | with_reducible exact calm_program
    | with_reducible exact calm_room
    | with_reducible exact calm_askRoom _
    | with_reducible exact calm_typeInfo _
    | with_reducible exact calm_underlying _
    | with_reducible exact calm_zeroValue _
    | with_reducible exact calm_sizeOf _
    | with_reducible exact calm_isAgg _
    | with_reducible exact calm_loadCellsFrom _ _ _
    | with_reducible exact calm_loadCells _ _
    | with_reducible exact calm_storeCells _ _ _
    | with_reducible exact calm_loadVar _ _
    | with_reducible exact calm_storeVar _ _ _
    | with_reducible exact calm_newRow _ _
    | with_reducible exact calm_newVar _ _
    | with_reducible exact calm_elemOf _
    | with_reducible exact calm_runtimePanic _
    | with_reducible exact calm_boundsPanic _ _ _ _
    | with_reducible exact calm_asIntOf _
    | with_reducible exact calm_asInt _
    | with_reducible exact calm_asBool _
    | with_reducible exact calm_asAddr _
    | with_reducible exact calm_sureAddr _
    | with_reducible exact calm_loadAt _ _
    | with_reducible exact calm_storeAt _ _ _
    | with_reducible exact calm_lenOf _
    | with_reducible exact calm_firstCells _ _ _
    | with_reducible exact calm_holdsCells _ _
    | with_reducible exact calm_mayShare _ _ _ _ _
    | with_reducible exact calm_len _ _ _
    | with_reducible exact calm_indexAt _ _ _
    | with_reducible exact calm_buildSlice _ _ _
    | with_reducible exact calm_makeSlice _ _ _
    | with_reducible exact calm_append _ _ _
    | with_reducible exact calm_typeStr _
    | with_reducible exact calm_part _ _ _
    | with_reducible exact calm_viewAt _
    | with_reducible exact calm_numberAt _
    | with_reducible exact calm_asNumber _ _
    | with_reducible exact calm_behindNumber _
    | with_reducible exact calm_noView _
    | with_reducible exact calm_stringish _
    | with_reducible exact calm_mayBeOne _ _
    | with_reducible exact calm_sameAddr _ _
    | with_reducible exact calm_samePointer _ _
    | with_reducible exact calm_byteOf _
    | with_reducible exact calm_twoPlaces _ _
    | with_reducible exact calm_addrSub _ _ _
    | with_reducible exact calm_addrCmp _ _ _
    | with_reducible exact calm_addrMod _ _ _
    | with_reducible exact calm_unsafeAdd _ _ _
    | with_reducible exact calm_movedNumber _ _ _
    | with_reducible exact calm_movedPointer _ _ _
    | with_reducible exact calm_intArith _ _ _ _
    | with_reducible exact calm_intDiv _ _ _ _
    | with_reducible exact calm_intBits _ _ _ _
    | with_reducible exact calm_intCmp _ _ _
    | with_reducible exact calm_shift _ _ _ _ _
    | with_reducible exact calm_floatArith _ _ _ _
    | with_reducible exact calm_floatCmp _ _ _ _
    | with_reducible exact calm_floatToFloat _ _ _
    | with_reducible exact calm_carith _ _ _ _
    | with_reducible exact calm_ccmp _ _ _ _
    | with_reducible exact calm_cconv _ _ _
    | with_reducible exact calm_cproduct _ _ _ _
    | with_reducible exact calm_ccorrected _ _ _ _ _
    | with_reducible exact calm_cquotient _ _ _ _
    | with_reducible exact calm_complexOp _ _ _ _ _ _
    | with_reducible exact calm_stringOp _ _ _
    | with_reducible exact calm_eqGuardIn _ _ _ _
    | with_reducible exact calm_equalIn _ _ _ _
    | with_reducible exact calm_equal _ _ _
    | with_reducible exact calm_eqGuard _ _ _ _ _ _
    | with_reducible exact calm_binOp _ _ _ _
    | with_reducible exact calm_makeChan _ _
    | with_reducible exact calm_extract _ _
    | with_reducible exact calm_freeze _ _
    | with_reducible exact calm_markStringish _
    | with_reducible exact calm_intToInt _ _
    | with_reducible exact calm_intToFloat _ _
    | with_reducible exact calm_floatToInt _ _ _
    | with_reducible exact calm_complexToComplex _ _ _ _
    | with_reducible exact calm_intToString _
    | with_reducible exact calm_stringToBytes _ _
    | with_reducible exact calm_stringToRunes _ _
    | with_reducible exact calm_bytesToString _
    | with_reducible exact calm_runesToString _
    | with_reducible exact calm_seenAt _
    | ((with_reducible refine calm_unsupported _ ?_); intro _ h; cases h)
    | ((with_reducible refine calm_newObj _ ?_); intro _ _ h; cases h)
    | with_reducible exact calm_map _ _ (calm_choose _)
    | with_reducible refine calm_map _ _ ?_
    | with_reducible refine calm_forIn_arr _ _ (fun _ _ => ?_) _
    | with_reducible refine calm_forIn_range _ _ (fun _ _ => ?_) _
    | with_reducible refine calm_getObj_bind _ _ (fun _ => ?_)
    | with_reducible refine calm_mapM_arr _ _ (fun _ => ?_)
    | with_reducible refine calm_mbind _ _ ?_ (fun _ => ?_)
    | with_reducible refine calm_ite _ _ _ (fun _ => ?_) (fun _ => ?_)
    | split
    | dsimp only)
theorem calm_variablesAt (a : Addr) (u : TypeId) (n : Nat) : Calm P (variablesAt a u n) := by
  unfold variablesAt
  repeat' (first
    | with_reducible exact calm_pure _
    | with_reducible exact calm_stuck _
    | with_reducible exact calm_goPanic _
    | with_reducible exact calm_load _ _
    | with_reducible exact calm_store _ _ _
    | with_reducible exact calm_shape _
    | with_reducible exact calm_frozen _
    | with_reducible exact calm_choose _
    | with_reducible exact calm_program
    | with_reducible exact calm_room
    | with_reducible exact calm_askRoom _
    | with_reducible exact calm_typeInfo _
    | with_reducible exact calm_underlying _
    | with_reducible exact calm_zeroValue _
    | with_reducible exact calm_sizeOf _
    | with_reducible exact calm_isAgg _
    | with_reducible exact calm_loadCellsFrom _ _ _
    | with_reducible exact calm_loadCells _ _
    | with_reducible exact calm_storeCells _ _ _
    | with_reducible exact calm_loadVar _ _
    | with_reducible exact calm_storeVar _ _ _
    | with_reducible exact calm_newRow _ _
    | with_reducible exact calm_newVar _ _
    | with_reducible exact calm_elemOf _
    | with_reducible exact calm_runtimePanic _
    | with_reducible exact calm_boundsPanic _ _ _ _
    | with_reducible exact calm_asIntOf _
    | with_reducible exact calm_asInt _
    | with_reducible exact calm_asBool _
    | with_reducible exact calm_asAddr _
    | with_reducible exact calm_sureAddr _
    | with_reducible exact calm_loadAt _ _
    | with_reducible exact calm_storeAt _ _ _
    | with_reducible exact calm_lenOf _
    | with_reducible exact calm_firstCells _ _ _
    | with_reducible exact calm_holdsCells _ _
    | with_reducible exact calm_mayShare _ _ _ _ _
    | with_reducible exact calm_len _ _ _
    | with_reducible exact calm_indexAt _ _ _
    | with_reducible exact calm_buildSlice _ _ _
    | with_reducible exact calm_makeSlice _ _ _
    | with_reducible exact calm_append _ _ _
    | with_reducible exact calm_typeStr _
    | with_reducible exact calm_part _ _ _
    | with_reducible exact calm_viewAt _
    | with_reducible exact calm_numberAt _
    | with_reducible exact calm_asNumber _ _
    | with_reducible exact calm_behindNumber _
    | with_reducible exact calm_noView _
    | with_reducible exact calm_stringish _
    | with_reducible exact calm_mayBeOne _ _
    | with_reducible exact calm_sameAddr _ _
    | with_reducible exact calm_samePointer _ _
    | with_reducible exact calm_byteOf _
    | with_reducible exact calm_twoPlaces _ _
    | with_reducible exact calm_addrSub _ _ _
    | with_reducible exact calm_addrCmp _ _ _
    | with_reducible exact calm_addrMod _ _ _
    | with_reducible exact calm_unsafeAdd _ _ _
    | with_reducible exact calm_movedNumber _ _ _
    | with_reducible exact calm_movedPointer _ _ _
    | with_reducible exact calm_intArith _ _ _ _
    | with_reducible exact calm_intDiv _ _ _ _
    | with_reducible exact calm_intBits _ _ _ _
    | with_reducible exact calm_intCmp _ _ _
    | with_reducible exact calm_shift _ _ _ _ _
    | with_reducible exact calm_floatArith _ _ _ _
    | with_reducible exact calm_floatCmp _ _ _ _
    | with_reducible exact calm_floatToFloat _ _ _
    | with_reducible exact calm_carith _ _ _ _
    | with_reducible exact calm_ccmp _ _ _ _
    | with_reducible exact calm_cconv _ _ _
    | with_reducible exact calm_cproduct _ _ _ _
    | with_reducible exact calm_ccorrected _ _ _ _ _
    | with_reducible exact calm_cquotient _ _ _ _
    | with_reducible exact calm_complexOp _ _ _ _ _ _
    | with_reducible exact calm_stringOp _ _ _
    | with_reducible exact calm_eqGuardIn _ _ _ _
    | with_reducible exact calm_equalIn _ _ _ _
    | with_reducible exact calm_equal _ _ _
    | with_reducible exact calm_eqGuard _ _ _ _ _ _
    | with_reducible exact calm_binOp _ _ _ _
    | with_reducible exact calm_makeChan _ _
    | with_reducible exact calm_extract _ _
    | with_reducible exact calm_freeze _ _
    | with_reducible exact calm_markStringish _
    | with_reducible exact calm_intToInt _ _
    | with_reducible exact calm_intToFloat _ _
    | with_reducible exact calm_floatToInt _ _ _
    | with_reducible exact calm_complexToComplex _ _ _ _
    | with_reducible exact calm_intToString _
    | with_reducible exact calm_stringToBytes _ _
    | with_reducible exact calm_stringToRunes _ _
    | with_reducible exact calm_bytesToString _
    | with_reducible exact calm_runesToString _
    | with_reducible exact calm_seenAt _
    | with_reducible exact calm_cellsIn _
    | ((with_reducible refine calm_unsupported _ ?_); intro _ h; cases h)
    | ((with_reducible refine calm_newObj _ ?_); intro _ _ h; cases h)
    | with_reducible exact calm_map _ _ (calm_choose _)
    | with_reducible refine calm_map _ _ ?_
    | with_reducible refine calm_forIn_arr _ _ (fun _ _ => ?_) _
    | with_reducible refine calm_forIn_range _ _ (fun _ _ => ?_) _
    | with_reducible refine calm_getObj_bind _ _ (fun _ => ?_)
    | with_reducible refine calm_mapM_arr _ _ (fun _ => ?_)
    | with_reducible refine calm_mbind _ _ ?_ (fun _ => ?_)
    | with_reducible refine calm_ite _ _ _ (fun _ => ?_) (fun _ => ?_)
    | split
    | dsimp only)
theorem calm_unsafePointer (s t : TypeId) (x : Value) : Calm P (Conv.unsafePointer s t x) := by
  unfold Conv.unsafePointer
  repeat' (first
    | with_reducible exact calm_pure _
    | with_reducible exact calm_stuck _
    | with_reducible exact calm_goPanic _
    | with_reducible exact calm_load _ _
    | with_reducible exact calm_store _ _ _
    | with_reducible exact calm_shape _
    | with_reducible exact calm_frozen _
    | with_reducible exact calm_choose _
    | with_reducible exact calm_program
    | with_reducible exact calm_room
    | with_reducible exact calm_askRoom _
    | with_reducible exact calm_typeInfo _
    | with_reducible exact calm_underlying _
    | with_reducible exact calm_zeroValue _
    | with_reducible exact calm_sizeOf _
    | with_reducible exact calm_isAgg _
    | with_reducible exact calm_loadCellsFrom _ _ _
    | with_reducible exact calm_loadCells _ _
    | with_reducible exact calm_storeCells _ _ _
    | with_reducible exact calm_loadVar _ _
    | with_reducible exact calm_storeVar _ _ _
    | with_reducible exact calm_newRow _ _
    | with_reducible exact calm_newVar _ _
    | with_reducible exact calm_elemOf _
    | with_reducible exact calm_runtimePanic _
    | with_reducible exact calm_boundsPanic _ _ _ _
    | with_reducible exact calm_asIntOf _
    | with_reducible exact calm_asInt _
    | with_reducible exact calm_asBool _
    | with_reducible exact calm_asAddr _
    | with_reducible exact calm_sureAddr _
    | with_reducible exact calm_loadAt _ _
    | with_reducible exact calm_storeAt _ _ _
    | with_reducible exact calm_lenOf _
    | with_reducible exact calm_firstCells _ _ _
    | with_reducible exact calm_holdsCells _ _
    | with_reducible exact calm_mayShare _ _ _ _ _
    | with_reducible exact calm_len _ _ _
    | with_reducible exact calm_indexAt _ _ _
    | with_reducible exact calm_buildSlice _ _ _
    | with_reducible exact calm_makeSlice _ _ _
    | with_reducible exact calm_append _ _ _
    | with_reducible exact calm_typeStr _
    | with_reducible exact calm_part _ _ _
    | with_reducible exact calm_viewAt _
    | with_reducible exact calm_numberAt _
    | with_reducible exact calm_asNumber _ _
    | with_reducible exact calm_behindNumber _
    | with_reducible exact calm_noView _
    | with_reducible exact calm_stringish _
    | with_reducible exact calm_mayBeOne _ _
    | with_reducible exact calm_sameAddr _ _
    | with_reducible exact calm_samePointer _ _
    | with_reducible exact calm_byteOf _
    | with_reducible exact calm_twoPlaces _ _
    | with_reducible exact calm_addrSub _ _ _
    | with_reducible exact calm_addrCmp _ _ _
    | with_reducible exact calm_addrMod _ _ _
    | with_reducible exact calm_unsafeAdd _ _ _
    | with_reducible exact calm_movedNumber _ _ _
    | with_reducible exact calm_movedPointer _ _ _
    | with_reducible exact calm_intArith _ _ _ _
    | with_reducible exact calm_intDiv _ _ _ _
    | with_reducible exact calm_intBits _ _ _ _
    | with_reducible exact calm_intCmp _ _ _
    | with_reducible exact calm_shift _ _ _ _ _
    | with_reducible exact calm_floatArith _ _ _ _
    | with_reducible exact calm_floatCmp _ _ _ _
    | with_reducible exact calm_floatToFloat _ _ _
    | with_reducible exact calm_carith _ _ _ _
    | with_reducible exact calm_ccmp _ _ _ _
    | with_reducible exact calm_cconv _ _ _
    | with_reducible exact calm_cproduct _ _ _ _
    | with_reducible exact calm_ccorrected _ _ _ _ _
    | with_reducible exact calm_cquotient _ _ _ _
    | with_reducible exact calm_complexOp _ _ _ _ _ _
    | with_reducible exact calm_stringOp _ _ _
    | with_reducible exact calm_eqGuardIn _ _ _ _
    | with_reducible exact calm_equalIn _ _ _ _
    | with_reducible exact calm_equal _ _ _
    | with_reducible exact calm_eqGuard _ _ _ _ _ _
    | with_reducible exact calm_binOp _ _ _ _
    | with_reducible exact calm_makeChan _ _
    | with_reducible exact calm_extract _ _
    | with_reducible exact calm_freeze _ _
    | with_reducible exact calm_markStringish _
    | with_reducible exact calm_intToInt _ _
    | with_reducible exact calm_intToFloat _ _
    | with_reducible exact calm_floatToInt _ _ _
    | with_reducible exact calm_complexToComplex _ _ _ _
    | with_reducible exact calm_intToString _
    | with_reducible exact calm_stringToBytes _ _
    | with_reducible exact calm_stringToRunes _ _
    | with_reducible exact calm_bytesToString _
    | with_reducible exact calm_runesToString _
    | with_reducible exact calm_seenAt _
    | with_reducible exact calm_cellsIn _
    | with_reducible exact calm_variablesAt _ _ _
    | ((with_reducible refine calm_unsupported _ ?_); intro _ h; cases h)
    | ((with_reducible refine calm_newObj _ ?_); intro _ _ h; cases h)
    | with_reducible exact calm_map _ _ (calm_choose _)
    | with_reducible refine calm_map _ _ ?_
    | with_reducible refine calm_forIn_arr _ _ (fun _ _ => ?_) _
    | with_reducible refine calm_forIn_range _ _ (fun _ _ => ?_) _
    | with_reducible refine calm_getObj_bind _ _ (fun _ => ?_)
    | with_reducible refine calm_mapM_arr _ _ (fun _ => ?_)
    | with_reducible refine calm_mbind _ _ ?_ (fun _ => ?_)
    | with_reducible refine calm_ite _ _ _ (fun _ => ?_) (fun _ => ?_)
    | split
    | dsimp only)
theorem calm_convert (s t : TypeId) (x : Value) : Calm P (Go.convert s t x) := by
  unfold Go.convert
  repeat' (first
    | with_reducible exact calm_pure _
    | with_reducible exact calm_stuck _
    | with_reducible exact calm_goPanic _
    | with_reducible exact calm_load _ _
    | with_reducible exact calm_store _ _ _
    | with_reducible exact calm_shape _
    | with_reducible exact calm_frozen _
    | with_reducible exact calm_choose _
    | with_reducible exact calm_program
    | with_reducible exact calm_room
    | with_reducible exact calm_askRoom _
    | with_reducible exact calm_typeInfo _
    | with_reducible exact calm_underlying _
    | with_reducible exact calm_zeroValue _
    | with_reducible exact calm_sizeOf _
    | with_reducible exact calm_isAgg _
    | with_reducible exact calm_loadCellsFrom _ _ _
    | with_reducible exact calm_loadCells _ _
    | with_reducible exact calm_storeCells _ _ _
    | with_reducible exact calm_loadVar _ _
    | with_reducible exact calm_storeVar _ _ _
    | with_reducible exact calm_newRow _ _
    | with_reducible exact calm_newVar _ _
    | with_reducible exact calm_elemOf _
    | with_reducible exact calm_runtimePanic _
    | with_reducible exact calm_boundsPanic _ _ _ _
    | with_reducible exact calm_asIntOf _
    | with_reducible exact calm_asInt _
    | with_reducible exact calm_asBool _
    | with_reducible exact calm_asAddr _
    | with_reducible exact calm_sureAddr _
    | with_reducible exact calm_loadAt _ _
    | with_reducible exact calm_storeAt _ _ _
    | with_reducible exact calm_lenOf _
    | with_reducible exact calm_firstCells _ _ _
    | with_reducible exact calm_holdsCells _ _
    | with_reducible exact calm_mayShare _ _ _ _ _
    | with_reducible exact calm_len _ _ _
    | with_reducible exact calm_indexAt _ _ _
    | with_reducible exact calm_buildSlice _ _ _
    | with_reducible exact calm_makeSlice _ _ _
    | with_reducible exact calm_append _ _ _
    | with_reducible exact calm_typeStr _
    | with_reducible exact calm_part _ _ _
    | with_reducible exact calm_viewAt _
    | with_reducible exact calm_numberAt _
    | with_reducible exact calm_asNumber _ _
    | with_reducible exact calm_behindNumber _
    | with_reducible exact calm_noView _
    | with_reducible exact calm_stringish _
    | with_reducible exact calm_mayBeOne _ _
    | with_reducible exact calm_sameAddr _ _
    | with_reducible exact calm_samePointer _ _
    | with_reducible exact calm_byteOf _
    | with_reducible exact calm_twoPlaces _ _
    | with_reducible exact calm_addrSub _ _ _
    | with_reducible exact calm_addrCmp _ _ _
    | with_reducible exact calm_addrMod _ _ _
    | with_reducible exact calm_unsafeAdd _ _ _
    | with_reducible exact calm_movedNumber _ _ _
    | with_reducible exact calm_movedPointer _ _ _
    | with_reducible exact calm_intArith _ _ _ _
    | with_reducible exact calm_intDiv _ _ _ _
    | with_reducible exact calm_intBits _ _ _ _
    | with_reducible exact calm_intCmp _ _ _
    | with_reducible exact calm_shift _ _ _ _ _
    | with_reducible exact calm_floatArith _ _ _ _
    | with_reducible exact calm_floatCmp _ _ _ _
    | with_reducible exact calm_floatToFloat _ _ _
    | with_reducible exact calm_carith _ _ _ _
    | with_reducible exact calm_ccmp _ _ _ _
    | with_reducible exact calm_cconv _ _ _
    | with_reducible exact calm_cproduct _ _ _ _
    | with_reducible exact calm_ccorrected _ _ _ _ _
    | with_reducible exact calm_cquotient _ _ _ _
    | with_reducible exact calm_complexOp _ _ _ _ _ _
    | with_reducible exact calm_stringOp _ _ _
    | with_reducible exact calm_eqGuardIn _ _ _ _
    | with_reducible exact calm_equalIn _ _ _ _
    | with_reducible exact calm_equal _ _ _
    | with_reducible exact calm_eqGuard _ _ _ _ _ _
    | with_reducible exact calm_binOp _ _ _ _
    | with_reducible exact calm_makeChan _ _
    | with_reducible exact calm_extract _ _
    | with_reducible exact calm_freeze _ _
    | with_reducible exact calm_markStringish _
    | with_reducible exact calm_intToInt _ _
    | with_reducible exact calm_intToFloat _ _
    | with_reducible exact calm_floatToInt _ _ _
    | with_reducible exact calm_complexToComplex _ _ _ _
    | with_reducible exact calm_intToString _
    | with_reducible exact calm_stringToBytes _ _
    | with_reducible exact calm_stringToRunes _ _
    | with_reducible exact calm_bytesToString _
    | with_reducible exact calm_runesToString _
    | with_reducible exact calm_seenAt _
    | with_reducible exact calm_cellsIn _
    | with_reducible exact calm_variablesAt _ _ _
    | with_reducible exact calm_unsafePointer _ _ _
    | ((with_reducible refine calm_unsupported _ ?_); intro _ h; cases h)
    | ((with_reducible refine calm_newObj _ ?_); intro _ _ h; cases h)
    | with_reducible exact calm_map _ _ (calm_choose _)
    | with_reducible refine calm_map _ _ ?_
    | with_reducible refine calm_forIn_arr _ _ (fun _ _ => ?_) _
    | with_reducible refine calm_forIn_range _ _ (fun _ _ => ?_) _
    | with_reducible refine calm_getObj_bind _ _ (fun _ => ?_)
    | with_reducible refine calm_mapM_arr _ _ (fun _ => ?_)
    | with_reducible refine calm_mbind _ _ ?_ (fun _ => ?_)
    | with_reducible refine calm_ite _ _ _ (fun _ => ?_) (fun _ => ?_)
    | split
    | dsimp only)
theorem calm_partAt (a : Addr) (o b : Nat) : Calm P (partAt a o b) := by
  unfold partAt
  repeat' (first
    | with_reducible exact calm_pure _
    | with_reducible exact calm_stuck _
    | with_reducible exact calm_goPanic _
    | with_reducible exact calm_load _ _
    | with_reducible exact calm_store _ _ _
    | with_reducible exact calm_shape _
    | with_reducible exact calm_frozen _
    | with_reducible exact calm_choose _
    | with_reducible exact calm_program
    | with_reducible exact calm_room
    | with_reducible exact calm_askRoom _
    | with_reducible exact calm_typeInfo _
    | with_reducible exact calm_underlying _
    | with_reducible exact calm_zeroValue _
    | with_reducible exact calm_sizeOf _
    | with_reducible exact calm_isAgg _
    | with_reducible exact calm_loadCellsFrom _ _ _
    | with_reducible exact calm_loadCells _ _
    | with_reducible exact calm_storeCells _ _ _
    | with_reducible exact calm_loadVar _ _
    | with_reducible exact calm_storeVar _ _ _
    | with_reducible exact calm_newRow _ _
    | with_reducible exact calm_newVar _ _
    | with_reducible exact calm_elemOf _
    | with_reducible exact calm_runtimePanic _
    | with_reducible exact calm_boundsPanic _ _ _ _
    | with_reducible exact calm_asIntOf _
    | with_reducible exact calm_asInt _
    | with_reducible exact calm_asBool _
    | with_reducible exact calm_asAddr _
    | with_reducible exact calm_sureAddr _
    | with_reducible exact calm_loadAt _ _
    | with_reducible exact calm_storeAt _ _ _
    | with_reducible exact calm_lenOf _
    | with_reducible exact calm_firstCells _ _ _
    | with_reducible exact calm_holdsCells _ _
    | with_reducible exact calm_mayShare _ _ _ _ _
    | with_reducible exact calm_len _ _ _
    | with_reducible exact calm_indexAt _ _ _
    | with_reducible exact calm_buildSlice _ _ _
    | with_reducible exact calm_makeSlice _ _ _
    | with_reducible exact calm_append _ _ _
    | with_reducible exact calm_typeStr _
    | with_reducible exact calm_part _ _ _
    | with_reducible exact calm_viewAt _
    | with_reducible exact calm_numberAt _
    | with_reducible exact calm_asNumber _ _
    | with_reducible exact calm_behindNumber _
    | with_reducible exact calm_noView _
    | with_reducible exact calm_stringish _
    | with_reducible exact calm_mayBeOne _ _
    | with_reducible exact calm_sameAddr _ _
    | with_reducible exact calm_samePointer _ _
    | with_reducible exact calm_byteOf _
    | with_reducible exact calm_twoPlaces _ _
    | with_reducible exact calm_addrSub _ _ _
    | with_reducible exact calm_addrCmp _ _ _
    | with_reducible exact calm_addrMod _ _ _
    | with_reducible exact calm_unsafeAdd _ _ _
    | with_reducible exact calm_movedNumber _ _ _
    | with_reducible exact calm_movedPointer _ _ _
    | with_reducible exact calm_intArith _ _ _ _
    | with_reducible exact calm_intDiv _ _ _ _
    | with_reducible exact calm_intBits _ _ _ _
    | with_reducible exact calm_intCmp _ _ _
    | with_reducible exact calm_shift _ _ _ _ _
    | with_reducible exact calm_floatArith _ _ _ _
    | with_reducible exact calm_floatCmp _ _ _ _
    | with_reducible exact calm_floatToFloat _ _ _
    | with_reducible exact calm_carith _ _ _ _
    | with_reducible exact calm_ccmp _ _ _ _
    | with_reducible exact calm_cconv _ _ _
    | with_reducible exact calm_cproduct _ _ _ _
    | with_reducible exact calm_ccorrected _ _ _ _ _
    | with_reducible exact calm_cquotient _ _ _ _
    | with_reducible exact calm_complexOp _ _ _ _ _ _
    | with_reducible exact calm_stringOp _ _ _
    | with_reducible exact calm_eqGuardIn _ _ _ _
    | with_reducible exact calm_equalIn _ _ _ _
    | with_reducible exact calm_equal _ _ _
    | with_reducible exact calm_eqGuard _ _ _ _ _ _
    | with_reducible exact calm_binOp _ _ _ _
    | with_reducible exact calm_makeChan _ _
    | with_reducible exact calm_extract _ _
    | with_reducible exact calm_freeze _ _
    | with_reducible exact calm_markStringish _
    | with_reducible exact calm_intToInt _ _
    | with_reducible exact calm_intToFloat _ _
    | with_reducible exact calm_floatToInt _ _ _
    | with_reducible exact calm_complexToComplex _ _ _ _
    | with_reducible exact calm_intToString _
    | with_reducible exact calm_stringToBytes _ _
    | with_reducible exact calm_stringToRunes _ _
    | with_reducible exact calm_bytesToString _
    | with_reducible exact calm_runesToString _
    | with_reducible exact calm_seenAt _
    | with_reducible exact calm_cellsIn _
    | with_reducible exact calm_variablesAt _ _ _
    | with_reducible exact calm_unsafePointer _ _ _
    | with_reducible exact calm_convert _ _ _
    | ((with_reducible refine calm_unsupported _ ?_); intro _ h; cases h)
    | ((with_reducible refine calm_newObj _ ?_); intro _ _ h; cases h)
    | with_reducible exact calm_map _ _ (calm_choose _)
    | with_reducible refine calm_map _ _ ?_
    | with_reducible refine calm_forIn_arr _ _ (fun _ _ => ?_) _
    | with_reducible refine calm_forIn_range _ _ (fun _ _ => ?_) _
    | with_reducible refine calm_getObj_bind _ _ (fun _ => ?_)
    | with_reducible refine calm_mapM_arr _ _ (fun _ => ?_)
    | with_reducible refine calm_mbind _ _ ?_ (fun _ => ?_)
    | with_reducible refine calm_ite _ _ _ (fun _ => ?_) (fun _ => ?_)
    | split
    | dsimp only)
theorem calm_fieldPlace (a : Addr) (f : Field) : Calm P (fieldPlace a f) := by
  unfold fieldPlace
  repeat' (first
    | with_reducible exact calm_pure _
    | with_reducible exact calm_stuck _
    | with_reducible exact calm_goPanic _
    | with_reducible exact calm_load _ _
    | with_reducible exact calm_store _ _ _
    | with_reducible exact calm_shape _
    | with_reducible exact calm_frozen _
    | with_reducible exact calm_choose _
    | with_reducible exact calm_program
    | with_reducible exact calm_room
    | with_reducible exact calm_askRoom _
    | with_reducible exact calm_typeInfo _
    | with_reducible exact calm_underlying _
    | with_reducible exact calm_zeroValue _
    | with_reducible exact calm_sizeOf _
    | with_reducible exact calm_isAgg _
    | with_reducible exact calm_loadCellsFrom _ _ _
    | with_reducible exact calm_loadCells _ _
    | with_reducible exact calm_storeCells _ _ _
    | with_reducible exact calm_loadVar _ _
    | with_reducible exact calm_storeVar _ _ _
    | with_reducible exact calm_newRow _ _
    | with_reducible exact calm_newVar _ _
    | with_reducible exact calm_elemOf _
    | with_reducible exact calm_runtimePanic _
    | with_reducible exact calm_boundsPanic _ _ _ _
    | with_reducible exact calm_asIntOf _
    | with_reducible exact calm_asInt _
    | with_reducible exact calm_asBool _
    | with_reducible exact calm_asAddr _
    | with_reducible exact calm_sureAddr _
    | with_reducible exact calm_loadAt _ _
    | with_reducible exact calm_storeAt _ _ _
    | with_reducible exact calm_lenOf _
    | with_reducible exact calm_firstCells _ _ _
    | with_reducible exact calm_holdsCells _ _
    | with_reducible exact calm_mayShare _ _ _ _ _
    | with_reducible exact calm_len _ _ _
    | with_reducible exact calm_indexAt _ _ _
    | with_reducible exact calm_buildSlice _ _ _
    | with_reducible exact calm_makeSlice _ _ _
    | with_reducible exact calm_append _ _ _
    | with_reducible exact calm_typeStr _
    | with_reducible exact calm_part _ _ _
    | with_reducible exact calm_viewAt _
    | with_reducible exact calm_numberAt _
    | with_reducible exact calm_asNumber _ _
    | with_reducible exact calm_behindNumber _
    | with_reducible exact calm_noView _
    | with_reducible exact calm_stringish _
    | with_reducible exact calm_mayBeOne _ _
    | with_reducible exact calm_sameAddr _ _
    | with_reducible exact calm_samePointer _ _
    | with_reducible exact calm_byteOf _
    | with_reducible exact calm_twoPlaces _ _
    | with_reducible exact calm_addrSub _ _ _
    | with_reducible exact calm_addrCmp _ _ _
    | with_reducible exact calm_addrMod _ _ _
    | with_reducible exact calm_unsafeAdd _ _ _
    | with_reducible exact calm_movedNumber _ _ _
    | with_reducible exact calm_movedPointer _ _ _
    | with_reducible exact calm_intArith _ _ _ _
    | with_reducible exact calm_intDiv _ _ _ _
    | with_reducible exact calm_intBits _ _ _ _
    | with_reducible exact calm_intCmp _ _ _
    | with_reducible exact calm_shift _ _ _ _ _
    | with_reducible exact calm_floatArith _ _ _ _
    | with_reducible exact calm_floatCmp _ _ _ _
    | with_reducible exact calm_floatToFloat _ _ _
    | with_reducible exact calm_carith _ _ _ _
    | with_reducible exact calm_ccmp _ _ _ _
    | with_reducible exact calm_cconv _ _ _
    | with_reducible exact calm_cproduct _ _ _ _
    | with_reducible exact calm_ccorrected _ _ _ _ _
    | with_reducible exact calm_cquotient _ _ _ _
    | with_reducible exact calm_complexOp _ _ _ _ _ _
    | with_reducible exact calm_stringOp _ _ _
    | with_reducible exact calm_eqGuardIn _ _ _ _
    | with_reducible exact calm_equalIn _ _ _ _
    | with_reducible exact calm_equal _ _ _
    | with_reducible exact calm_eqGuard _ _ _ _ _ _
    | with_reducible exact calm_binOp _ _ _ _
    | with_reducible exact calm_makeChan _ _
    | with_reducible exact calm_extract _ _
    | with_reducible exact calm_freeze _ _
    | with_reducible exact calm_markStringish _
    | with_reducible exact calm_intToInt _ _
    | with_reducible exact calm_intToFloat _ _
    | with_reducible exact calm_floatToInt _ _ _
    | with_reducible exact calm_complexToComplex _ _ _ _
    | with_reducible exact calm_intToString _
    | with_reducible exact calm_stringToBytes _ _
    | with_reducible exact calm_stringToRunes _ _
    | with_reducible exact calm_bytesToString _
    | with_reducible exact calm_runesToString _
    | with_reducible exact calm_seenAt _
    | with_reducible exact calm_cellsIn _
    | with_reducible exact calm_variablesAt _ _ _
    | with_reducible exact calm_unsafePointer _ _ _
    | with_reducible exact calm_convert _ _ _
    | with_reducible exact calm_partAt _ _ _
    | ((with_reducible refine calm_unsupported _ ?_); intro _ h; cases h)
    | ((with_reducible refine calm_newObj _ ?_); intro _ _ h; cases h)
    | with_reducible exact calm_map _ _ (calm_choose _)
    | with_reducible refine calm_map _ _ ?_
    | with_reducible refine calm_forIn_arr _ _ (fun _ _ => ?_) _
    | with_reducible refine calm_forIn_range _ _ (fun _ _ => ?_) _
    | with_reducible refine calm_getObj_bind _ _ (fun _ => ?_)
    | with_reducible refine calm_mapM_arr _ _ (fun _ => ?_)
    | with_reducible refine calm_mbind _ _ ?_ (fun _ => ?_)
    | with_reducible refine calm_ite _ _ _ (fun _ => ?_) (fun _ => ?_)
    | split
    | dsimp only)
theorem calm_fieldAt (s : TypeId) (a : Value) (f : Nat) : Calm P (Instr.fieldAt s a f) := by
  unfold Instr.fieldAt
  repeat' (first
    | with_reducible exact calm_pure _
    | with_reducible exact calm_stuck _
    | with_reducible exact calm_goPanic _
    | with_reducible exact calm_load _ _
    | with_reducible exact calm_store _ _ _
    | with_reducible exact calm_shape _
    | with_reducible exact calm_frozen _
    | with_reducible exact calm_choose _
    | with_reducible exact calm_program
    | with_reducible exact calm_room
    | with_reducible exact calm_askRoom _
    | with_reducible exact calm_typeInfo _
    | with_reducible exact calm_underlying _
    | with_reducible exact calm_zeroValue _
    | with_reducible exact calm_sizeOf _
    | with_reducible exact calm_isAgg _
    | with_reducible exact calm_loadCellsFrom _ _ _
    | with_reducible exact calm_loadCells _ _
    | with_reducible exact calm_storeCells _ _ _
    | with_reducible exact calm_loadVar _ _
    | with_reducible exact calm_storeVar _ _ _
    | with_reducible exact calm_newRow _ _
    | with_reducible exact calm_newVar _ _
    | with_reducible exact calm_elemOf _
    | with_reducible exact calm_runtimePanic _
    | with_reducible exact calm_boundsPanic _ _ _ _
    | with_reducible exact calm_asIntOf _
    | with_reducible exact calm_asInt _
    | with_reducible exact calm_asBool _
    | with_reducible exact calm_asAddr _
    | with_reducible exact calm_sureAddr _
    | with_reducible exact calm_loadAt _ _
    | with_reducible exact calm_storeAt _ _ _
    | with_reducible exact calm_lenOf _
    | with_reducible exact calm_firstCells _ _ _
    | with_reducible exact calm_holdsCells _ _
    | with_reducible exact calm_mayShare _ _ _ _ _
    | with_reducible exact calm_len _ _ _
    | with_reducible exact calm_indexAt _ _ _
    | with_reducible exact calm_buildSlice _ _ _
    | with_reducible exact calm_makeSlice _ _ _
    | with_reducible exact calm_append _ _ _
    | with_reducible exact calm_typeStr _
    | with_reducible exact calm_part _ _ _
    | with_reducible exact calm_viewAt _
    | with_reducible exact calm_numberAt _
    | with_reducible exact calm_asNumber _ _
    | with_reducible exact calm_behindNumber _
    | with_reducible exact calm_noView _
    | with_reducible exact calm_stringish _
    | with_reducible exact calm_mayBeOne _ _
    | with_reducible exact calm_sameAddr _ _
    | with_reducible exact calm_samePointer _ _
    | with_reducible exact calm_byteOf _
    | with_reducible exact calm_twoPlaces _ _
    | with_reducible exact calm_addrSub _ _ _
    | with_reducible exact calm_addrCmp _ _ _
    | with_reducible exact calm_addrMod _ _ _
    | with_reducible exact calm_unsafeAdd _ _ _
    | with_reducible exact calm_movedNumber _ _ _
    | with_reducible exact calm_movedPointer _ _ _
    | with_reducible exact calm_intArith _ _ _ _
    | with_reducible exact calm_intDiv _ _ _ _
    | with_reducible exact calm_intBits _ _ _ _
    | with_reducible exact calm_intCmp _ _ _
    | with_reducible exact calm_shift _ _ _ _ _
    | with_reducible exact calm_floatArith _ _ _ _
    | with_reducible exact calm_floatCmp _ _ _ _
    | with_reducible exact calm_floatToFloat _ _ _
    | with_reducible exact calm_carith _ _ _ _
    | with_reducible exact calm_ccmp _ _ _ _
    | with_reducible exact calm_cconv _ _ _
    | with_reducible exact calm_cproduct _ _ _ _
    | with_reducible exact calm_ccorrected _ _ _ _ _
    | with_reducible exact calm_cquotient _ _ _ _
    | with_reducible exact calm_complexOp _ _ _ _ _ _
    | with_reducible exact calm_stringOp _ _ _
    | with_reducible exact calm_eqGuardIn _ _ _ _
    | with_reducible exact calm_equalIn _ _ _ _
    | with_reducible exact calm_equal _ _ _
    | with_reducible exact calm_eqGuard _ _ _ _ _ _
    | with_reducible exact calm_binOp _ _ _ _
    | with_reducible exact calm_makeChan _ _
    | with_reducible exact calm_extract _ _
    | with_reducible exact calm_freeze _ _
    | with_reducible exact calm_markStringish _
    | with_reducible exact calm_intToInt _ _
    | with_reducible exact calm_intToFloat _ _
    | with_reducible exact calm_floatToInt _ _ _
    | with_reducible exact calm_complexToComplex _ _ _ _
    | with_reducible exact calm_intToString _
    | with_reducible exact calm_stringToBytes _ _
    | with_reducible exact calm_stringToRunes _ _
    | with_reducible exact calm_bytesToString _
    | with_reducible exact calm_runesToString _
    | with_reducible exact calm_seenAt _
    | with_reducible exact calm_cellsIn _
    | with_reducible exact calm_variablesAt _ _ _
    | with_reducible exact calm_unsafePointer _ _ _
    | with_reducible exact calm_convert _ _ _
    | with_reducible exact calm_partAt _ _ _
    | with_reducible exact calm_fieldPlace _ _
    | ((with_reducible refine calm_unsupported _ ?_); intro _ h; cases h)
    | ((with_reducible refine calm_newObj _ ?_); intro _ _ h; cases h)
    | with_reducible exact calm_map _ _ (calm_choose _)
    | with_reducible refine calm_map _ _ ?_
    | with_reducible refine calm_forIn_arr _ _ (fun _ _ => ?_) _
    | with_reducible refine calm_forIn_range _ _ (fun _ _ => ?_) _
    | with_reducible refine calm_getObj_bind _ _ (fun _ => ?_)
    | with_reducible refine calm_mapM_arr _ _ (fun _ => ?_)
    | with_reducible refine calm_mbind _ _ ?_ (fun _ => ?_)
    | with_reducible refine calm_ite _ _ _ (fun _ => ?_) (fun _ => ?_)
    | split
    | dsimp only)
theorem calm_sliceBound (x : Value) (y : Nat) (c : BoundsCode) : Calm P (Instr.sliceBound x y c) := by
  unfold Instr.sliceBound
  repeat' (first
    | with_reducible exact calm_pure _
    | with_reducible exact calm_stuck _
    | with_reducible exact calm_goPanic _
    | with_reducible exact calm_load _ _
    | with_reducible exact calm_store _ _ _
    | with_reducible exact calm_shape _
    | with_reducible exact calm_frozen _
    | with_reducible exact calm_choose _
    | with_reducible exact calm_program
    | with_reducible exact calm_room
    | with_reducible exact calm_askRoom _
    | with_reducible exact calm_typeInfo _
    | with_reducible exact calm_underlying _
    | with_reducible exact calm_zeroValue _
    | with_reducible exact calm_sizeOf _
    | with_reducible exact calm_isAgg _
    | with_reducible exact calm_loadCellsFrom _ _ _
    | with_reducible exact calm_loadCells _ _
    | with_reducible exact calm_storeCells _ _ _
    | with_reducible exact calm_loadVar _ _
    | with_reducible exact calm_storeVar _ _ _
    | with_reducible exact calm_newRow _ _
    | with_reducible exact calm_newVar _ _
    | with_reducible exact calm_elemOf _
    | with_reducible exact calm_runtimePanic _
    | with_reducible exact calm_boundsPanic _ _ _ _
    | with_reducible exact calm_asIntOf _
    | with_reducible exact calm_asInt _
    | with_reducible exact calm_asBool _
    | with_reducible exact calm_asAddr _
    | with_reducible exact calm_sureAddr _
    | with_reducible exact calm_loadAt _ _
    | with_reducible exact calm_storeAt _ _ _
    | with_reducible exact calm_lenOf _
    | with_reducible exact calm_firstCells _ _ _
    | with_reducible exact calm_holdsCells _ _
    | with_reducible exact calm_mayShare _ _ _ _ _
    | with_reducible exact calm_len _ _ _
    | with_reducible exact calm_indexAt _ _ _
    | with_reducible exact calm_buildSlice _ _ _
    | with_reducible exact calm_makeSlice _ _ _
    | with_reducible exact calm_append _ _ _
    | with_reducible exact calm_typeStr _
    | with_reducible exact calm_part _ _ _
    | with_reducible exact calm_viewAt _
    | with_reducible exact calm_numberAt _
    | with_reducible exact calm_asNumber _ _
    | with_reducible exact calm_behindNumber _
    | with_reducible exact calm_noView _
    | with_reducible exact calm_stringish _
    | with_reducible exact calm_mayBeOne _ _
    | with_reducible exact calm_sameAddr _ _
    | with_reducible exact calm_samePointer _ _
    | with_reducible exact calm_byteOf _
    | with_reducible exact calm_twoPlaces _ _
    | with_reducible exact calm_addrSub _ _ _
    | with_reducible exact calm_addrCmp _ _ _
    | with_reducible exact calm_addrMod _ _ _
    | with_reducible exact calm_unsafeAdd _ _ _
    | with_reducible exact calm_movedNumber _ _ _
    | with_reducible exact calm_movedPointer _ _ _
    | with_reducible exact calm_intArith _ _ _ _
    | with_reducible exact calm_intDiv _ _ _ _
    | with_reducible exact calm_intBits _ _ _ _
    | with_reducible exact calm_intCmp _ _ _
    | with_reducible exact calm_shift _ _ _ _ _
    | with_reducible exact calm_floatArith _ _ _ _
    | with_reducible exact calm_floatCmp _ _ _ _
    | with_reducible exact calm_floatToFloat _ _ _
    | with_reducible exact calm_carith _ _ _ _
    | with_reducible exact calm_ccmp _ _ _ _
    | with_reducible exact calm_cconv _ _ _
    | with_reducible exact calm_cproduct _ _ _ _
    | with_reducible exact calm_ccorrected _ _ _ _ _
    | with_reducible exact calm_cquotient _ _ _ _
    | with_reducible exact calm_complexOp _ _ _ _ _ _
    | with_reducible exact calm_stringOp _ _ _
    | with_reducible exact calm_eqGuardIn _ _ _ _
    | with_reducible exact calm_equalIn _ _ _ _
    | with_reducible exact calm_equal _ _ _
    | with_reducible exact calm_eqGuard _ _ _ _ _ _
    | with_reducible exact calm_binOp _ _ _ _
    | with_reducible exact calm_makeChan _ _
    | with_reducible exact calm_extract _ _
    | with_reducible exact calm_freeze _ _
    | with_reducible exact calm_markStringish _
    | with_reducible exact calm_intToInt _ _
    | with_reducible exact calm_intToFloat _ _
    | with_reducible exact calm_floatToInt _ _ _
    | with_reducible exact calm_complexToComplex _ _ _ _
    | with_reducible exact calm_intToString _
    | with_reducible exact calm_stringToBytes _ _
    | with_reducible exact calm_stringToRunes _ _
    | with_reducible exact calm_bytesToString _
    | with_reducible exact calm_runesToString _
    | with_reducible exact calm_seenAt _
    | with_reducible exact calm_cellsIn _
    | with_reducible exact calm_variablesAt _ _ _
    | with_reducible exact calm_unsafePointer _ _ _
    | with_reducible exact calm_convert _ _ _
    | with_reducible exact calm_partAt _ _ _
    | with_reducible exact calm_fieldPlace _ _
    | with_reducible exact calm_fieldAt _ _ _
    | ((with_reducible refine calm_unsupported _ ?_); intro _ h; cases h)
    | ((with_reducible refine calm_newObj _ ?_); intro _ _ h; cases h)
    | with_reducible exact calm_map _ _ (calm_choose _)
    | with_reducible refine calm_map _ _ ?_
    | with_reducible refine calm_forIn_arr _ _ (fun _ _ => ?_) _
    | with_reducible refine calm_forIn_range _ _ (fun _ _ => ?_) _
    | with_reducible refine calm_getObj_bind _ _ (fun _ => ?_)
    | with_reducible refine calm_mapM_arr _ _ (fun _ => ?_)
    | with_reducible refine calm_mbind _ _ ?_ (fun _ => ?_)
    | with_reducible refine calm_ite _ _ _ (fun _ => ?_) (fun _ => ?_)
    | split
    | dsimp only)
theorem calm_sliceBounds (b : Bool) (l c : Nat) (x y z : Option Value) : Calm P (Instr.sliceBounds b l c x y z) := by
  unfold Instr.sliceBounds
  repeat' (first
    | with_reducible exact calm_pure _
    | with_reducible exact calm_stuck _
    | with_reducible exact calm_goPanic _
    | with_reducible exact calm_load _ _
    | with_reducible exact calm_store _ _ _
    | with_reducible exact calm_shape _
    | with_reducible exact calm_frozen _
    | with_reducible exact calm_choose _
    | with_reducible exact calm_program
    | with_reducible exact calm_room
    | with_reducible exact calm_askRoom _
    | with_reducible exact calm_typeInfo _
    | with_reducible exact calm_underlying _
    | with_reducible exact calm_zeroValue _
    | with_reducible exact calm_sizeOf _
    | with_reducible exact calm_isAgg _
    | with_reducible exact calm_loadCellsFrom _ _ _
    | with_reducible exact calm_loadCells _ _
    | with_reducible exact calm_storeCells _ _ _
    | with_reducible exact calm_loadVar _ _
    | with_reducible exact calm_storeVar _ _ _
    | with_reducible exact calm_newRow _ _
    | with_reducible exact calm_newVar _ _
    | with_reducible exact calm_elemOf _
    | with_reducible exact calm_runtimePanic _
    | with_reducible exact calm_boundsPanic _ _ _ _
    | with_reducible exact calm_asIntOf _
    | with_reducible exact calm_asInt _
    | with_reducible exact calm_asBool _
    | with_reducible exact calm_asAddr _
    | with_reducible exact calm_sureAddr _
    | with_reducible exact calm_loadAt _ _
    | with_reducible exact calm_storeAt _ _ _
    | with_reducible exact calm_lenOf _
    | with_reducible exact calm_firstCells _ _ _
    | with_reducible exact calm_holdsCells _ _
    | with_reducible exact calm_mayShare _ _ _ _ _
    | with_reducible exact calm_len _ _ _
    | with_reducible exact calm_indexAt _ _ _
    | with_reducible exact calm_buildSlice _ _ _
    | with_reducible exact calm_makeSlice _ _ _
    | with_reducible exact calm_append _ _ _
    | with_reducible exact calm_typeStr _
    | with_reducible exact calm_part _ _ _
    | with_reducible exact calm_viewAt _
    | with_reducible exact calm_numberAt _
    | with_reducible exact calm_asNumber _ _
    | with_reducible exact calm_behindNumber _
    | with_reducible exact calm_noView _
    | with_reducible exact calm_stringish _
    | with_reducible exact calm_mayBeOne _ _
    | with_reducible exact calm_sameAddr _ _
    | with_reducible exact calm_samePointer _ _
    | with_reducible exact calm_byteOf _
    | with_reducible exact calm_twoPlaces _ _
    | with_reducible exact calm_addrSub _ _ _
    | with_reducible exact calm_addrCmp _ _ _
    | with_reducible exact calm_addrMod _ _ _
    | with_reducible exact calm_unsafeAdd _ _ _
    | with_reducible exact calm_movedNumber _ _ _
    | with_reducible exact calm_movedPointer _ _ _
    | with_reducible exact calm_intArith _ _ _ _
    | with_reducible exact calm_intDiv _ _ _ _
    | with_reducible exact calm_intBits _ _ _ _
    | with_reducible exact calm_intCmp _ _ _
    | with_reducible exact calm_shift _ _ _ _ _
    | with_reducible exact calm_floatArith _ _ _ _
    | with_reducible exact calm_floatCmp _ _ _ _
    | with_reducible exact calm_floatToFloat _ _ _
    | with_reducible exact calm_carith _ _ _ _
    | with_reducible exact calm_ccmp _ _ _ _
    | with_reducible exact calm_cconv _ _ _
    | with_reducible exact calm_cproduct _ _ _ _
    | with_reducible exact calm_ccorrected _ _ _ _ _
    | with_reducible exact calm_cquotient _ _ _ _
    | with_reducible exact calm_complexOp _ _ _ _ _ _
    | with_reducible exact calm_stringOp _ _ _
    | with_reducible exact calm_eqGuardIn _ _ _ _
    | with_reducible exact calm_equalIn _ _ _ _
    | with_reducible exact calm_equal _ _ _
    | with_reducible exact calm_eqGuard _ _ _ _ _ _
    | with_reducible exact calm_binOp _ _ _ _
    | with_reducible exact calm_makeChan _ _
    | with_reducible exact calm_extract _ _
    | with_reducible exact calm_freeze _ _
    | with_reducible exact calm_markStringish _
    | with_reducible exact calm_intToInt _ _
    | with_reducible exact calm_intToFloat _ _
    | with_reducible exact calm_floatToInt _ _ _
    | with_reducible exact calm_complexToComplex _ _ _ _
    | with_reducible exact calm_intToString _
    | with_reducible exact calm_stringToBytes _ _
    | with_reducible exact calm_stringToRunes _ _
    | with_reducible exact calm_bytesToString _
    | with_reducible exact calm_runesToString _
    | with_reducible exact calm_seenAt _
    | with_reducible exact calm_cellsIn _
    | with_reducible exact calm_variablesAt _ _ _
    | with_reducible exact calm_unsafePointer _ _ _
    | with_reducible exact calm_convert _ _ _
    | with_reducible exact calm_partAt _ _ _
    | with_reducible exact calm_fieldPlace _ _
    | with_reducible exact calm_fieldAt _ _ _
    | with_reducible exact calm_sliceBound _ _ _
    | ((with_reducible refine calm_unsupported _ ?_); intro _ h; cases h)
    | ((with_reducible refine calm_newObj _ ?_); intro _ _ h; cases h)
    | with_reducible exact calm_map _ _ (calm_choose _)
    | with_reducible refine calm_map _ _ ?_
    | with_reducible refine calm_forIn_arr _ _ (fun _ _ => ?_) _
    | with_reducible refine calm_forIn_range _ _ (fun _ _ => ?_) _
    | with_reducible refine calm_getObj_bind _ _ (fun _ => ?_)
    | with_reducible refine calm_mapM_arr _ _ (fun _ => ?_)
    | with_reducible refine calm_mbind _ _ ?_ (fun _ => ?_)
    | with_reducible refine calm_ite _ _ _ (fun _ => ?_) (fun _ => ?_)
    | split
    | dsimp only)
theorem calm_slice (t : TypeId) (v : Value) (x y z : Option Value) : Calm P (Instr.slice t v x y z) := by
  unfold Instr.slice
  repeat' (first
    | with_reducible exact calm_pure _
    | with_reducible exact calm_stuck _
    | with_reducible exact calm_goPanic _
    | with_reducible exact calm_load _ _
    | with_reducible exact calm_store _ _ _
    | with_reducible exact calm_shape _
    | with_reducible exact calm_frozen _
    | with_reducible exact calm_choose _
    | with_reducible exact calm_program
    | with_reducible exact calm_room
    | with_reducible exact calm_askRoom _
    | with_reducible exact calm_typeInfo _
    | with_reducible exact calm_underlying _
    | with_reducible exact calm_zeroValue _
    | with_reducible exact calm_sizeOf _
    | with_reducible exact calm_isAgg _
    | with_reducible exact calm_loadCellsFrom _ _ _
    | with_reducible exact calm_loadCells _ _
    | with_reducible exact calm_storeCells _ _ _
    | with_reducible exact calm_loadVar _ _
    | with_reducible exact calm_storeVar _ _ _
    | with_reducible exact calm_newRow _ _
    | with_reducible exact calm_newVar _ _
    | with_reducible exact calm_elemOf _
    | with_reducible exact calm_runtimePanic _
    | with_reducible exact calm_boundsPanic _ _ _ _
    | with_reducible exact calm_asIntOf _
    | with_reducible exact calm_asInt _
    | with_reducible exact calm_asBool _
    | with_reducible exact calm_asAddr _
    | with_reducible exact calm_sureAddr _
    | with_reducible exact calm_loadAt _ _
    | with_reducible exact calm_storeAt _ _ _
    | with_reducible exact calm_lenOf _
    | with_reducible exact calm_firstCells _ _ _
    | with_reducible exact calm_holdsCells _ _
    | with_reducible exact calm_mayShare _ _ _ _ _
    | with_reducible exact calm_len _ _ _
    | with_reducible exact calm_indexAt _ _ _
    | with_reducible exact calm_buildSlice _ _ _
    | with_reducible exact calm_makeSlice _ _ _
    | with_reducible exact calm_append _ _ _
    | with_reducible exact calm_typeStr _
    | with_reducible exact calm_part _ _ _
    | with_reducible exact calm_viewAt _
    | with_reducible exact calm_numberAt _
    | with_reducible exact calm_asNumber _ _
    | with_reducible exact calm_behindNumber _
    | with_reducible exact calm_noView _
    | with_reducible exact calm_stringish _
    | with_reducible exact calm_mayBeOne _ _
    | with_reducible exact calm_sameAddr _ _
    | with_reducible exact calm_samePointer _ _
    | with_reducible exact calm_byteOf _
    | with_reducible exact calm_twoPlaces _ _
    | with_reducible exact calm_addrSub _ _ _
    | with_reducible exact calm_addrCmp _ _ _
    | with_reducible exact calm_addrMod _ _ _
    | with_reducible exact calm_unsafeAdd _ _ _
    | with_reducible exact calm_movedNumber _ _ _
    | with_reducible exact calm_movedPointer _ _ _
    | with_reducible exact calm_intArith _ _ _ _
    | with_reducible exact calm_intDiv _ _ _ _
    | with_reducible exact calm_intBits _ _ _ _
    | with_reducible exact calm_intCmp _ _ _
    | with_reducible exact calm_shift _ _ _ _ _
    | with_reducible exact calm_floatArith _ _ _ _
    | with_reducible exact calm_floatCmp _ _ _ _
    | with_reducible exact calm_floatToFloat _ _ _
    | with_reducible exact calm_carith _ _ _ _
    | with_reducible exact calm_ccmp _ _ _ _
    | with_reducible exact calm_cconv _ _ _
    | with_reducible exact calm_cproduct _ _ _ _
    | with_reducible exact calm_ccorrected _ _ _ _ _
    | with_reducible exact calm_cquotient _ _ _ _
    | with_reducible exact calm_complexOp _ _ _ _ _ _
    | with_reducible exact calm_stringOp _ _ _
    | with_reducible exact calm_eqGuardIn _ _ _ _
    | with_reducible exact calm_equalIn _ _ _ _
    | with_reducible exact calm_equal _ _ _
    | with_reducible exact calm_eqGuard _ _ _ _ _ _
    | with_reducible exact calm_binOp _ _ _ _
    | with_reducible exact calm_makeChan _ _
    | with_reducible exact calm_extract _ _
    | with_reducible exact calm_freeze _ _
    | with_reducible exact calm_markStringish _
    | with_reducible exact calm_intToInt _ _
    | with_reducible exact calm_intToFloat _ _
    | with_reducible exact calm_floatToInt _ _ _
    | with_reducible exact calm_complexToComplex _ _ _ _
    | with_reducible exact calm_intToString _
    | with_reducible exact calm_stringToBytes _ _
    | with_reducible exact calm_stringToRunes _ _
    | with_reducible exact calm_bytesToString _
    | with_reducible exact calm_runesToString _
    | with_reducible exact calm_seenAt _
    | with_reducible exact calm_cellsIn _
    | with_reducible exact calm_variablesAt _ _ _
    | with_reducible exact calm_unsafePointer _ _ _
    | with_reducible exact calm_convert _ _ _
    | with_reducible exact calm_partAt _ _ _
    | with_reducible exact calm_fieldPlace _ _
    | with_reducible exact calm_fieldAt _ _ _
    | with_reducible exact calm_sliceBound _ _ _
    | with_reducible exact calm_sliceBounds _ _ _ _ _ _
    | ((with_reducible refine calm_unsupported _ ?_); intro _ h; cases h)
    | ((with_reducible refine calm_newObj _ ?_); intro _ _ h; cases h)
    | with_reducible exact calm_map _ _ (calm_choose _)
    | with_reducible refine calm_map _ _ ?_
    | with_reducible refine calm_forIn_arr _ _ (fun _ _ => ?_) _
    | with_reducible refine calm_forIn_range _ _ (fun _ _ => ?_) _
    | with_reducible refine calm_getObj_bind _ _ (fun _ => ?_)
    | with_reducible refine calm_mapM_arr _ _ (fun _ => ?_)
    | with_reducible refine calm_mbind _ _ ?_ (fun _ => ?_)
    | with_reducible refine calm_ite _ _ _ (fun _ => ?_) (fun _ => ?_)
    | split
    | dsimp only)
theorem calm_sliceAt (t : TypeId) (v : Value) (x y z : Option Value) : Calm P (Instr.sliceAt t v x y z) := by
  unfold Instr.sliceAt
  repeat' (first
    | with_reducible exact calm_pure _
    | with_reducible exact calm_stuck _
    | with_reducible exact calm_goPanic _
    | with_reducible exact calm_load _ _
    | with_reducible exact calm_store _ _ _
    | with_reducible exact calm_shape _
    | with_reducible exact calm_frozen _
    | with_reducible exact calm_choose _
    | with_reducible exact calm_program
    | with_reducible exact calm_room
    | with_reducible exact calm_askRoom _
    | with_reducible exact calm_typeInfo _
    | with_reducible exact calm_underlying _
    | with_reducible exact calm_zeroValue _
    | with_reducible exact calm_sizeOf _
    | with_reducible exact calm_isAgg _
    | with_reducible exact calm_loadCellsFrom _ _ _
    | with_reducible exact calm_loadCells _ _
    | with_reducible exact calm_storeCells _ _ _
    | with_reducible exact calm_loadVar _ _
    | with_reducible exact calm_storeVar _ _ _
    | with_reducible exact calm_newRow _ _
    | with_reducible exact calm_newVar _ _
    | with_reducible exact calm_elemOf _
    | with_reducible exact calm_runtimePanic _
    | with_reducible exact calm_boundsPanic _ _ _ _
    | with_reducible exact calm_asIntOf _
    | with_reducible exact calm_asInt _
    | with_reducible exact calm_asBool _
    | with_reducible exact calm_asAddr _
    | with_reducible exact calm_sureAddr _
    | with_reducible exact calm_loadAt _ _
    | with_reducible exact calm_storeAt _ _ _
    | with_reducible exact calm_lenOf _
    | with_reducible exact calm_firstCells _ _ _
    | with_reducible exact calm_holdsCells _ _
    | with_reducible exact calm_mayShare _ _ _ _ _
    | with_reducible exact calm_len _ _ _
    | with_reducible exact calm_indexAt _ _ _
    | with_reducible exact calm_buildSlice _ _ _
    | with_reducible exact calm_makeSlice _ _ _
    | with_reducible exact calm_append _ _ _
    | with_reducible exact calm_typeStr _
    | with_reducible exact calm_part _ _ _
    | with_reducible exact calm_viewAt _
    | with_reducible exact calm_numberAt _
    | with_reducible exact calm_asNumber _ _
    | with_reducible exact calm_behindNumber _
    | with_reducible exact calm_noView _
    | with_reducible exact calm_stringish _
    | with_reducible exact calm_mayBeOne _ _
    | with_reducible exact calm_sameAddr _ _
    | with_reducible exact calm_samePointer _ _
    | with_reducible exact calm_byteOf _
    | with_reducible exact calm_twoPlaces _ _
    | with_reducible exact calm_addrSub _ _ _
    | with_reducible exact calm_addrCmp _ _ _
    | with_reducible exact calm_addrMod _ _ _
    | with_reducible exact calm_unsafeAdd _ _ _
    | with_reducible exact calm_movedNumber _ _ _
    | with_reducible exact calm_movedPointer _ _ _
    | with_reducible exact calm_intArith _ _ _ _
    | with_reducible exact calm_intDiv _ _ _ _
    | with_reducible exact calm_intBits _ _ _ _
    | with_reducible exact calm_intCmp _ _ _
    | with_reducible exact calm_shift _ _ _ _ _
    | with_reducible exact calm_floatArith _ _ _ _
    | with_reducible exact calm_floatCmp _ _ _ _
    | with_reducible exact calm_floatToFloat _ _ _
    | with_reducible exact calm_carith _ _ _ _
    | with_reducible exact calm_ccmp _ _ _ _
    | with_reducible exact calm_cconv _ _ _
    | with_reducible exact calm_cproduct _ _ _ _
    | with_reducible exact calm_ccorrected _ _ _ _ _
    | with_reducible exact calm_cquotient _ _ _ _
    | with_reducible exact calm_complexOp _ _ _ _ _ _
    | with_reducible exact calm_stringOp _ _ _
    | with_reducible exact calm_eqGuardIn _ _ _ _
    | with_reducible exact calm_equalIn _ _ _ _
    | with_reducible exact calm_equal _ _ _
    | with_reducible exact calm_eqGuard _ _ _ _ _ _
    | with_reducible exact calm_binOp _ _ _ _
    | with_reducible exact calm_makeChan _ _
    | with_reducible exact calm_extract _ _
    | with_reducible exact calm_freeze _ _
    | with_reducible exact calm_markStringish _
    | with_reducible exact calm_intToInt _ _
    | with_reducible exact calm_intToFloat _ _
    | with_reducible exact calm_floatToInt _ _ _
    | with_reducible exact calm_complexToComplex _ _ _ _
    | with_reducible exact calm_intToString _
    | with_reducible exact calm_stringToBytes _ _
    | with_reducible exact calm_stringToRunes _ _
    | with_reducible exact calm_bytesToString _
    | with_reducible exact calm_runesToString _
    | with_reducible exact calm_seenAt _
    | with_reducible exact calm_cellsIn _
    | with_reducible exact calm_variablesAt _ _ _
    | with_reducible exact calm_unsafePointer _ _ _
    | with_reducible exact calm_convert _ _ _
    | with_reducible exact calm_partAt _ _ _
    | with_reducible exact calm_fieldPlace _ _
    | with_reducible exact calm_fieldAt _ _ _
    | with_reducible exact calm_sliceBound _ _ _
    | with_reducible exact calm_sliceBounds _ _ _ _ _ _
    | with_reducible exact calm_slice _ _ _ _ _
    | ((with_reducible refine calm_unsupported _ ?_); intro _ h; cases h)
    | ((with_reducible refine calm_newObj _ ?_); intro _ _ h; cases h)
    | with_reducible exact calm_map _ _ (calm_choose _)
    | with_reducible refine calm_map _ _ ?_
    | with_reducible refine calm_forIn_arr _ _ (fun _ _ => ?_) _
    | with_reducible refine calm_forIn_range _ _ (fun _ _ => ?_) _
    | with_reducible refine calm_getObj_bind _ _ (fun _ => ?_)
    | with_reducible refine calm_mapM_arr _ _ (fun _ => ?_)
    | with_reducible refine calm_mbind _ _ ?_ (fun _ => ?_)
    | with_reducible refine calm_ite _ _ _ (fun _ => ?_) (fun _ => ?_)
    | split
    | dsimp only)
theorem calm_box (t : TypeId) (v : Value) : Calm P (Instr.box t v) := by
  unfold Instr.box
  refine calm_mbind _ _ (calm_newVar _ _) (fun _ => calm_pure _)
  repeat' (first
    | with_reducible exact calm_pure _
    | with_reducible exact calm_stuck _
    | with_reducible exact calm_goPanic _
    | with_reducible exact calm_load _ _
    | with_reducible exact calm_store _ _ _
    | with_reducible exact calm_shape _
    | with_reducible exact calm_frozen _
    | with_reducible exact calm_choose _
    | with_reducible exact calm_program
    | with_reducible exact calm_room
    | with_reducible exact calm_askRoom _
    | with_reducible exact calm_typeInfo _
    | with_reducible exact calm_underlying _
    | with_reducible exact calm_zeroValue _
    | with_reducible exact calm_sizeOf _
    | with_reducible exact calm_isAgg _
    | with_reducible exact calm_loadCellsFrom _ _ _
    | with_reducible exact calm_loadCells _ _
    | with_reducible exact calm_storeCells _ _ _
    | with_reducible exact calm_loadVar _ _
    | with_reducible exact calm_storeVar _ _ _
    | with_reducible exact calm_newRow _ _
    | with_reducible exact calm_newVar _ _
    | with_reducible exact calm_elemOf _
    | with_reducible exact calm_runtimePanic _
    | with_reducible exact calm_boundsPanic _ _ _ _
    | with_reducible exact calm_asIntOf _
    | with_reducible exact calm_asInt _
    | with_reducible exact calm_asBool _
    | with_reducible exact calm_asAddr _
    | with_reducible exact calm_sureAddr _
    | with_reducible exact calm_loadAt _ _
    | with_reducible exact calm_storeAt _ _ _
    | with_reducible exact calm_lenOf _
    | with_reducible exact calm_firstCells _ _ _
    | with_reducible exact calm_holdsCells _ _
    | with_reducible exact calm_mayShare _ _ _ _ _
    | with_reducible exact calm_len _ _ _
    | with_reducible exact calm_indexAt _ _ _
    | with_reducible exact calm_buildSlice _ _ _
    | with_reducible exact calm_makeSlice _ _ _
    | with_reducible exact calm_append _ _ _
    | with_reducible exact calm_typeStr _
    | with_reducible exact calm_part _ _ _
    | with_reducible exact calm_viewAt _
    | with_reducible exact calm_numberAt _
    | with_reducible exact calm_asNumber _ _
    | with_reducible exact calm_behindNumber _
    | with_reducible exact calm_noView _
    | with_reducible exact calm_stringish _
    | with_reducible exact calm_mayBeOne _ _
    | with_reducible exact calm_sameAddr _ _
    | with_reducible exact calm_samePointer _ _
    | with_reducible exact calm_byteOf _
    | with_reducible exact calm_twoPlaces _ _
    | with_reducible exact calm_addrSub _ _ _
    | with_reducible exact calm_addrCmp _ _ _
    | with_reducible exact calm_addrMod _ _ _
    | with_reducible exact calm_unsafeAdd _ _ _
    | with_reducible exact calm_movedNumber _ _ _
    | with_reducible exact calm_movedPointer _ _ _
    | with_reducible exact calm_intArith _ _ _ _
    | with_reducible exact calm_intDiv _ _ _ _
    | with_reducible exact calm_intBits _ _ _ _
    | with_reducible exact calm_intCmp _ _ _
    | with_reducible exact calm_shift _ _ _ _ _
    | with_reducible exact calm_floatArith _ _ _ _
    | with_reducible exact calm_floatCmp _ _ _ _
    | with_reducible exact calm_floatToFloat _ _ _
    | with_reducible exact calm_carith _ _ _ _
    | with_reducible exact calm_ccmp _ _ _ _
    | with_reducible exact calm_cconv _ _ _
    | with_reducible exact calm_cproduct _ _ _ _
    | with_reducible exact calm_ccorrected _ _ _ _ _
    | with_reducible exact calm_cquotient _ _ _ _
    | with_reducible exact calm_complexOp _ _ _ _ _ _
    | with_reducible exact calm_stringOp _ _ _
    | with_reducible exact calm_eqGuardIn _ _ _ _
    | with_reducible exact calm_equalIn _ _ _ _
    | with_reducible exact calm_equal _ _ _
    | with_reducible exact calm_eqGuard _ _ _ _ _ _
    | with_reducible exact calm_binOp _ _ _ _
    | with_reducible exact calm_makeChan _ _
    | with_reducible exact calm_extract _ _
    | with_reducible exact calm_freeze _ _
    | with_reducible exact calm_markStringish _
    | with_reducible exact calm_intToInt _ _
    | with_reducible exact calm_intToFloat _ _
    | with_reducible exact calm_floatToInt _ _ _
    | with_reducible exact calm_complexToComplex _ _ _ _
    | with_reducible exact calm_intToString _
    | with_reducible exact calm_stringToBytes _ _
    | with_reducible exact calm_stringToRunes _ _
    | with_reducible exact calm_bytesToString _
    | with_reducible exact calm_runesToString _
    | with_reducible exact calm_seenAt _
    | with_reducible exact calm_cellsIn _
    | with_reducible exact calm_variablesAt _ _ _
    | with_reducible exact calm_unsafePointer _ _ _
    | with_reducible exact calm_convert _ _ _
    | with_reducible exact calm_partAt _ _ _
    | with_reducible exact calm_fieldPlace _ _
    | with_reducible exact calm_fieldAt _ _ _
    | with_reducible exact calm_sliceBound _ _ _
    | with_reducible exact calm_sliceBounds _ _ _ _ _ _
    | with_reducible exact calm_slice _ _ _ _ _
    | with_reducible exact calm_sliceAt _ _ _ _ _
    | ((with_reducible refine calm_unsupported _ ?_); intro _ h; cases h)
    | ((with_reducible refine calm_newObj _ ?_); intro _ _ h; cases h)
    | with_reducible exact calm_map _ _ (calm_choose _)
    | with_reducible refine calm_map _ _ ?_
    | with_reducible refine calm_forIn_arr _ _ (fun _ _ => ?_) _
    | with_reducible refine calm_forIn_range _ _ (fun _ _ => ?_) _
    | with_reducible refine calm_getObj_bind _ _ (fun _ => ?_)
    | with_reducible refine calm_mapM_arr _ _ (fun _ => ?_)
    | with_reducible refine calm_mbind _ _ ?_ (fun _ => ?_)
    | with_reducible refine calm_ite _ _ _ (fun _ => ?_) (fun _ => ?_)
    | split
    | dsimp only)
theorem calm_build (t : TypeId) (ps : Array (Nat × Value)) : Calm P (Instr.build t ps) := by
  unfold Instr.build
  repeat' (first
    | with_reducible exact calm_pure _
    | with_reducible exact calm_stuck _
    | with_reducible exact calm_goPanic _
    | with_reducible exact calm_load _ _
    | with_reducible exact calm_store _ _ _
    | with_reducible exact calm_shape _
    | with_reducible exact calm_frozen _
    | with_reducible exact calm_choose _
    | with_reducible exact calm_program
    | with_reducible exact calm_room
    | with_reducible exact calm_askRoom _
    | with_reducible exact calm_typeInfo _
    | with_reducible exact calm_underlying _
    | with_reducible exact calm_zeroValue _
    | with_reducible exact calm_sizeOf _
    | with_reducible exact calm_isAgg _
    | with_reducible exact calm_loadCellsFrom _ _ _
    | with_reducible exact calm_loadCells _ _
    | with_reducible exact calm_storeCells _ _ _
    | with_reducible exact calm_loadVar _ _
    | with_reducible exact calm_storeVar _ _ _
    | with_reducible exact calm_newRow _ _
    | with_reducible exact calm_newVar _ _
    | with_reducible exact calm_elemOf _
    | with_reducible exact calm_runtimePanic _
    | with_reducible exact calm_boundsPanic _ _ _ _
    | with_reducible exact calm_asIntOf _
    | with_reducible exact calm_asInt _
    | with_reducible exact calm_asBool _
    | with_reducible exact calm_asAddr _
    | with_reducible exact calm_sureAddr _
    | with_reducible exact calm_loadAt _ _
    | with_reducible exact calm_storeAt _ _ _
    | with_reducible exact calm_lenOf _
    | with_reducible exact calm_firstCells _ _ _
    | with_reducible exact calm_holdsCells _ _
    | with_reducible exact calm_mayShare _ _ _ _ _
    | with_reducible exact calm_len _ _ _
    | with_reducible exact calm_indexAt _ _ _
    | with_reducible exact calm_buildSlice _ _ _
    | with_reducible exact calm_makeSlice _ _ _
    | with_reducible exact calm_append _ _ _
    | with_reducible exact calm_typeStr _
    | with_reducible exact calm_part _ _ _
    | with_reducible exact calm_viewAt _
    | with_reducible exact calm_numberAt _
    | with_reducible exact calm_asNumber _ _
    | with_reducible exact calm_behindNumber _
    | with_reducible exact calm_noView _
    | with_reducible exact calm_stringish _
    | with_reducible exact calm_mayBeOne _ _
    | with_reducible exact calm_sameAddr _ _
    | with_reducible exact calm_samePointer _ _
    | with_reducible exact calm_byteOf _
    | with_reducible exact calm_twoPlaces _ _
    | with_reducible exact calm_addrSub _ _ _
    | with_reducible exact calm_addrCmp _ _ _
    | with_reducible exact calm_addrMod _ _ _
    | with_reducible exact calm_unsafeAdd _ _ _
    | with_reducible exact calm_movedNumber _ _ _
    | with_reducible exact calm_movedPointer _ _ _
    | with_reducible exact calm_intArith _ _ _ _
    | with_reducible exact calm_intDiv _ _ _ _
    | with_reducible exact calm_intBits _ _ _ _
    | with_reducible exact calm_intCmp _ _ _
    | with_reducible exact calm_shift _ _ _ _ _
    | with_reducible exact calm_floatArith _ _ _ _
    | with_reducible exact calm_floatCmp _ _ _ _
    | with_reducible exact calm_floatToFloat _ _ _
    | with_reducible exact calm_carith _ _ _ _
    | with_reducible exact calm_ccmp _ _ _ _
    | with_reducible exact calm_cconv _ _ _
    | with_reducible exact calm_cproduct _ _ _ _
    | with_reducible exact calm_ccorrected _ _ _ _ _
    | with_reducible exact calm_cquotient _ _ _ _
    | with_reducible exact calm_complexOp _ _ _ _ _ _
    | with_reducible exact calm_stringOp _ _ _
    | with_reducible exact calm_eqGuardIn _ _ _ _
    | with_reducible exact calm_equalIn _ _ _ _
    | with_reducible exact calm_equal _ _ _
    | with_reducible exact calm_eqGuard _ _ _ _ _ _
    | with_reducible exact calm_binOp _ _ _ _
    | with_reducible exact calm_makeChan _ _
    | with_reducible exact calm_extract _ _
    | with_reducible exact calm_freeze _ _
    | with_reducible exact calm_markStringish _
    | with_reducible exact calm_intToInt _ _
    | with_reducible exact calm_intToFloat _ _
    | with_reducible exact calm_floatToInt _ _ _
    | with_reducible exact calm_complexToComplex _ _ _ _
    | with_reducible exact calm_intToString _
    | with_reducible exact calm_stringToBytes _ _
    | with_reducible exact calm_stringToRunes _ _
    | with_reducible exact calm_bytesToString _
    | with_reducible exact calm_runesToString _
    | with_reducible exact calm_seenAt _
    | with_reducible exact calm_cellsIn _
    | with_reducible exact calm_variablesAt _ _ _
    | with_reducible exact calm_unsafePointer _ _ _
    | with_reducible exact calm_convert _ _ _
    | with_reducible exact calm_partAt _ _ _
    | with_reducible exact calm_fieldPlace _ _
    | with_reducible exact calm_fieldAt _ _ _
    | with_reducible exact calm_sliceBound _ _ _
    | with_reducible exact calm_sliceBounds _ _ _ _ _ _
    | with_reducible exact calm_slice _ _ _ _ _
    | with_reducible exact calm_sliceAt _ _ _ _ _
    | with_reducible exact calm_box _ _
    | ((with_reducible refine calm_unsupported _ ?_); intro _ h; cases h)
    | ((with_reducible refine calm_newObj _ ?_); intro _ _ h; cases h)
    | with_reducible exact calm_map _ _ (calm_choose _)
    | with_reducible refine calm_map _ _ ?_
    | with_reducible refine calm_forIn_arr _ _ (fun _ _ => ?_) _
    | with_reducible refine calm_forIn_range _ _ (fun _ _ => ?_) _
    | with_reducible refine calm_getObj_bind _ _ (fun _ => ?_)
    | with_reducible refine calm_mapM_arr _ _ (fun _ => ?_)
    | with_reducible refine calm_mbind _ _ ?_ (fun _ => ?_)
    | with_reducible refine calm_ite _ _ _ (fun _ => ?_) (fun _ => ?_)
    | split
    | dsimp only)
theorem calm_index (t : TypeId) (x i : Value) : Calm P (Instr.index t x i) := by
  unfold Instr.index
  repeat' (first
    | with_reducible exact calm_pure _
    | with_reducible exact calm_stuck _
    | with_reducible exact calm_goPanic _
    | with_reducible exact calm_load _ _
    | with_reducible exact calm_store _ _ _
    | with_reducible exact calm_shape _
    | with_reducible exact calm_frozen _
    | with_reducible exact calm_choose _
    | with_reducible exact calm_program
    | with_reducible exact calm_room
    | with_reducible exact calm_askRoom _
    | with_reducible exact calm_typeInfo _
    | with_reducible exact calm_underlying _
    | with_reducible exact calm_zeroValue _
    | with_reducible exact calm_sizeOf _
    | with_reducible exact calm_isAgg _
    | with_reducible exact calm_loadCellsFrom _ _ _
    | with_reducible exact calm_loadCells _ _
    | with_reducible exact calm_storeCells _ _ _
    | with_reducible exact calm_loadVar _ _
    | with_reducible exact calm_storeVar _ _ _
    | with_reducible exact calm_newRow _ _
    | with_reducible exact calm_newVar _ _
    | with_reducible exact calm_elemOf _
    | with_reducible exact calm_runtimePanic _
    | with_reducible exact calm_boundsPanic _ _ _ _
    | with_reducible exact calm_asIntOf _
    | with_reducible exact calm_asInt _
    | with_reducible exact calm_asBool _
    | with_reducible exact calm_asAddr _
    | with_reducible exact calm_sureAddr _
    | with_reducible exact calm_loadAt _ _
    | with_reducible exact calm_storeAt _ _ _
    | with_reducible exact calm_lenOf _
    | with_reducible exact calm_firstCells _ _ _
    | with_reducible exact calm_holdsCells _ _
    | with_reducible exact calm_mayShare _ _ _ _ _
    | with_reducible exact calm_len _ _ _
    | with_reducible exact calm_indexAt _ _ _
    | with_reducible exact calm_buildSlice _ _ _
    | with_reducible exact calm_makeSlice _ _ _
    | with_reducible exact calm_append _ _ _
    | with_reducible exact calm_typeStr _
    | with_reducible exact calm_part _ _ _
    | with_reducible exact calm_viewAt _
    | with_reducible exact calm_numberAt _
    | with_reducible exact calm_asNumber _ _
    | with_reducible exact calm_behindNumber _
    | with_reducible exact calm_noView _
    | with_reducible exact calm_stringish _
    | with_reducible exact calm_mayBeOne _ _
    | with_reducible exact calm_sameAddr _ _
    | with_reducible exact calm_samePointer _ _
    | with_reducible exact calm_byteOf _
    | with_reducible exact calm_twoPlaces _ _
    | with_reducible exact calm_addrSub _ _ _
    | with_reducible exact calm_addrCmp _ _ _
    | with_reducible exact calm_addrMod _ _ _
    | with_reducible exact calm_unsafeAdd _ _ _
    | with_reducible exact calm_movedNumber _ _ _
    | with_reducible exact calm_movedPointer _ _ _
    | with_reducible exact calm_intArith _ _ _ _
    | with_reducible exact calm_intDiv _ _ _ _
    | with_reducible exact calm_intBits _ _ _ _
    | with_reducible exact calm_intCmp _ _ _
    | with_reducible exact calm_shift _ _ _ _ _
    | with_reducible exact calm_floatArith _ _ _ _
    | with_reducible exact calm_floatCmp _ _ _ _
    | with_reducible exact calm_floatToFloat _ _ _
    | with_reducible exact calm_carith _ _ _ _
    | with_reducible exact calm_ccmp _ _ _ _
    | with_reducible exact calm_cconv _ _ _
    | with_reducible exact calm_cproduct _ _ _ _
    | with_reducible exact calm_ccorrected _ _ _ _ _
    | with_reducible exact calm_cquotient _ _ _ _
    | with_reducible exact calm_complexOp _ _ _ _ _ _
    | with_reducible exact calm_stringOp _ _ _
    | with_reducible exact calm_eqGuardIn _ _ _ _
    | with_reducible exact calm_equalIn _ _ _ _
    | with_reducible exact calm_equal _ _ _
    | with_reducible exact calm_eqGuard _ _ _ _ _ _
    | with_reducible exact calm_binOp _ _ _ _
    | with_reducible exact calm_makeChan _ _
    | with_reducible exact calm_extract _ _
    | with_reducible exact calm_freeze _ _
    | with_reducible exact calm_markStringish _
    | with_reducible exact calm_intToInt _ _
    | with_reducible exact calm_intToFloat _ _
    | with_reducible exact calm_floatToInt _ _ _
    | with_reducible exact calm_complexToComplex _ _ _ _
    | with_reducible exact calm_intToString _
    | with_reducible exact calm_stringToBytes _ _
    | with_reducible exact calm_stringToRunes _ _
    | with_reducible exact calm_bytesToString _
    | with_reducible exact calm_runesToString _
    | with_reducible exact calm_seenAt _
    | with_reducible exact calm_cellsIn _
    | with_reducible exact calm_variablesAt _ _ _
    | with_reducible exact calm_unsafePointer _ _ _
    | with_reducible exact calm_convert _ _ _
    | with_reducible exact calm_partAt _ _ _
    | with_reducible exact calm_fieldPlace _ _
    | with_reducible exact calm_fieldAt _ _ _
    | with_reducible exact calm_sliceBound _ _ _
    | with_reducible exact calm_sliceBounds _ _ _ _ _ _
    | with_reducible exact calm_slice _ _ _ _ _
    | with_reducible exact calm_sliceAt _ _ _ _ _
    | with_reducible exact calm_box _ _
    | with_reducible exact calm_build _ _
    | ((with_reducible refine calm_unsupported _ ?_); intro _ h; cases h)
    | ((with_reducible refine calm_newObj _ ?_); intro _ _ h; cases h)
    | with_reducible exact calm_map _ _ (calm_choose _)
    | with_reducible refine calm_map _ _ ?_
    | with_reducible refine calm_forIn_arr _ _ (fun _ _ => ?_) _
    | with_reducible refine calm_forIn_range _ _ (fun _ _ => ?_) _
    | with_reducible refine calm_getObj_bind _ _ (fun _ => ?_)
    | with_reducible refine calm_mapM_arr _ _ (fun _ => ?_)
    | with_reducible refine calm_mbind _ _ ?_ (fun _ => ?_)
    | with_reducible refine calm_ite _ _ _ (fun _ => ?_) (fun _ => ?_)
    | split
    | dsimp only)
theorem calm_asAgg (x : Value) : Calm P (asAgg x) := by
  unfold asAgg
  repeat' (first
    | with_reducible exact calm_pure _
    | with_reducible exact calm_stuck _
    | with_reducible exact calm_goPanic _
    | with_reducible exact calm_load _ _
    | with_reducible exact calm_store _ _ _
    | with_reducible exact calm_shape _
    | with_reducible exact calm_frozen _
    | with_reducible exact calm_choose _
    | with_reducible exact calm_program
    | with_reducible exact calm_room
    | with_reducible exact calm_askRoom _
    | with_reducible exact calm_typeInfo _
    | with_reducible exact calm_underlying _
    | with_reducible exact calm_zeroValue _
    | with_reducible exact calm_sizeOf _
    | with_reducible exact calm_isAgg _
    | with_reducible exact calm_loadCellsFrom _ _ _
    | with_reducible exact calm_loadCells _ _
    | with_reducible exact calm_storeCells _ _ _
    | with_reducible exact calm_loadVar _ _
    | with_reducible exact calm_storeVar _ _ _
    | with_reducible exact calm_newRow _ _
    | with_reducible exact calm_newVar _ _
    | with_reducible exact calm_elemOf _
    | with_reducible exact calm_runtimePanic _
    | with_reducible exact calm_boundsPanic _ _ _ _
    | with_reducible exact calm_asIntOf _
    | with_reducible exact calm_asInt _
    | with_reducible exact calm_asBool _
    | with_reducible exact calm_asAddr _
    | with_reducible exact calm_sureAddr _
    | with_reducible exact calm_loadAt _ _
    | with_reducible exact calm_storeAt _ _ _
    | with_reducible exact calm_lenOf _
    | with_reducible exact calm_firstCells _ _ _
    | with_reducible exact calm_holdsCells _ _
    | with_reducible exact calm_mayShare _ _ _ _ _
    | with_reducible exact calm_len _ _ _
    | with_reducible exact calm_indexAt _ _ _
    | with_reducible exact calm_buildSlice _ _ _
    | with_reducible exact calm_makeSlice _ _ _
    | with_reducible exact calm_append _ _ _
    | with_reducible exact calm_typeStr _
    | with_reducible exact calm_part _ _ _
    | with_reducible exact calm_viewAt _
    | with_reducible exact calm_numberAt _
    | with_reducible exact calm_asNumber _ _
    | with_reducible exact calm_behindNumber _
    | with_reducible exact calm_noView _
    | with_reducible exact calm_stringish _
    | with_reducible exact calm_mayBeOne _ _
    | with_reducible exact calm_sameAddr _ _
    | with_reducible exact calm_samePointer _ _
    | with_reducible exact calm_byteOf _
    | with_reducible exact calm_twoPlaces _ _
    | with_reducible exact calm_addrSub _ _ _
    | with_reducible exact calm_addrCmp _ _ _
    | with_reducible exact calm_addrMod _ _ _
    | with_reducible exact calm_unsafeAdd _ _ _
    | with_reducible exact calm_movedNumber _ _ _
    | with_reducible exact calm_movedPointer _ _ _
    | with_reducible exact calm_intArith _ _ _ _
    | with_reducible exact calm_intDiv _ _ _ _
    | with_reducible exact calm_intBits _ _ _ _
    | with_reducible exact calm_intCmp _ _ _
    | with_reducible exact calm_shift _ _ _ _ _
    | with_reducible exact calm_floatArith _ _ _ _
    | with_reducible exact calm_floatCmp _ _ _ _
    | with_reducible exact calm_floatToFloat _ _ _
    | with_reducible exact calm_carith _ _ _ _
    | with_reducible exact calm_ccmp _ _ _ _
    | with_reducible exact calm_cconv _ _ _
    | with_reducible exact calm_cproduct _ _ _ _
    | with_reducible exact calm_ccorrected _ _ _ _ _
    | with_reducible exact calm_cquotient _ _ _ _
    | with_reducible exact calm_complexOp _ _ _ _ _ _
    | with_reducible exact calm_stringOp _ _ _
    | with_reducible exact calm_eqGuardIn _ _ _ _
    | with_reducible exact calm_equalIn _ _ _ _
    | with_reducible exact calm_equal _ _ _
    | with_reducible exact calm_eqGuard _ _ _ _ _ _
    | with_reducible exact calm_binOp _ _ _ _
    | with_reducible exact calm_makeChan _ _
    | with_reducible exact calm_extract _ _
    | with_reducible exact calm_freeze _ _
    | with_reducible exact calm_markStringish _
    | with_reducible exact calm_intToInt _ _
    | with_reducible exact calm_intToFloat _ _
    | with_reducible exact calm_floatToInt _ _ _
    | with_reducible exact calm_complexToComplex _ _ _ _
    | with_reducible exact calm_intToString _
    | with_reducible exact calm_stringToBytes _ _
    | with_reducible exact calm_stringToRunes _ _
    | with_reducible exact calm_bytesToString _
    | with_reducible exact calm_runesToString _
    | with_reducible exact calm_seenAt _
    | with_reducible exact calm_cellsIn _
    | with_reducible exact calm_variablesAt _ _ _
    | with_reducible exact calm_unsafePointer _ _ _
    | with_reducible exact calm_convert _ _ _
    | with_reducible exact calm_partAt _ _ _
    | with_reducible exact calm_fieldPlace _ _
    | with_reducible exact calm_fieldAt _ _ _
    | with_reducible exact calm_sliceBound _ _ _
    | with_reducible exact calm_sliceBounds _ _ _ _ _ _
    | with_reducible exact calm_slice _ _ _ _ _
    | with_reducible exact calm_sliceAt _ _ _ _ _
    | with_reducible exact calm_box _ _
    | with_reducible exact calm_build _ _
    | with_reducible exact calm_index _ _ _
    | ((with_reducible refine calm_unsupported _ ?_); intro _ h; cases h)
    | ((with_reducible refine calm_newObj _ ?_); intro _ _ h; cases h)
    | with_reducible exact calm_map _ _ (calm_choose _)
    | with_reducible refine calm_map _ _ ?_
    | with_reducible refine calm_forIn_arr _ _ (fun _ _ => ?_) _
    | with_reducible refine calm_forIn_range _ _ (fun _ _ => ?_) _
    | with_reducible refine calm_getObj_bind _ _ (fun _ => ?_)
    | with_reducible refine calm_mapM_arr _ _ (fun _ => ?_)
    | with_reducible refine calm_mbind _ _ ?_ (fun _ => ?_)
    | with_reducible refine calm_ite _ _ _ (fun _ => ?_) (fun _ => ?_)
    | split
    | dsimp only)
theorem calm_field (t : TypeId) (x : Value) (i : Nat) : Calm P (Instr.field t x i) := by
  unfold Instr.field
  repeat' (first
    | with_reducible exact calm_pure _
    | with_reducible exact calm_stuck _
    | with_reducible exact calm_goPanic _
    | with_reducible exact calm_load _ _
    | with_reducible exact calm_store _ _ _
    | with_reducible exact calm_shape _
    | with_reducible exact calm_frozen _
    | with_reducible exact calm_choose _
    | with_reducible exact calm_program
    | with_reducible exact calm_room
    | with_reducible exact calm_askRoom _
    | with_reducible exact calm_typeInfo _
    | with_reducible exact calm_underlying _
    | with_reducible exact calm_zeroValue _
    | with_reducible exact calm_sizeOf _
    | with_reducible exact calm_isAgg _
    | with_reducible exact calm_loadCellsFrom _ _ _
    | with_reducible exact calm_loadCells _ _
    | with_reducible exact calm_storeCells _ _ _
    | with_reducible exact calm_loadVar _ _
    | with_reducible exact calm_storeVar _ _ _
    | with_reducible exact calm_newRow _ _
    | with_reducible exact calm_newVar _ _
    | with_reducible exact calm_elemOf _
    | with_reducible exact calm_runtimePanic _
    | with_reducible exact calm_boundsPanic _ _ _ _
    | with_reducible exact calm_asIntOf _
    | with_reducible exact calm_asInt _
    | with_reducible exact calm_asBool _
    | with_reducible exact calm_asAddr _
    | with_reducible exact calm_sureAddr _
    | with_reducible exact calm_loadAt _ _
    | with_reducible exact calm_storeAt _ _ _
    | with_reducible exact calm_lenOf _
    | with_reducible exact calm_firstCells _ _ _
    | with_reducible exact calm_holdsCells _ _
    | with_reducible exact calm_mayShare _ _ _ _ _
    | with_reducible exact calm_len _ _ _
    | with_reducible exact calm_indexAt _ _ _
    | with_reducible exact calm_buildSlice _ _ _
    | with_reducible exact calm_makeSlice _ _ _
    | with_reducible exact calm_append _ _ _
    | with_reducible exact calm_typeStr _
    | with_reducible exact calm_part _ _ _
    | with_reducible exact calm_viewAt _
    | with_reducible exact calm_numberAt _
    | with_reducible exact calm_asNumber _ _
    | with_reducible exact calm_behindNumber _
    | with_reducible exact calm_noView _
    | with_reducible exact calm_stringish _
    | with_reducible exact calm_mayBeOne _ _
    | with_reducible exact calm_sameAddr _ _
    | with_reducible exact calm_samePointer _ _
    | with_reducible exact calm_byteOf _
    | with_reducible exact calm_twoPlaces _ _
    | with_reducible exact calm_addrSub _ _ _
    | with_reducible exact calm_addrCmp _ _ _
    | with_reducible exact calm_addrMod _ _ _
    | with_reducible exact calm_unsafeAdd _ _ _
    | with_reducible exact calm_movedNumber _ _ _
    | with_reducible exact calm_movedPointer _ _ _
    | with_reducible exact calm_intArith _ _ _ _
    | with_reducible exact calm_intDiv _ _ _ _
    | with_reducible exact calm_intBits _ _ _ _
    | with_reducible exact calm_intCmp _ _ _
    | with_reducible exact calm_shift _ _ _ _ _
    | with_reducible exact calm_floatArith _ _ _ _
    | with_reducible exact calm_floatCmp _ _ _ _
    | with_reducible exact calm_floatToFloat _ _ _
    | with_reducible exact calm_carith _ _ _ _
    | with_reducible exact calm_ccmp _ _ _ _
    | with_reducible exact calm_cconv _ _ _
    | with_reducible exact calm_cproduct _ _ _ _
    | with_reducible exact calm_ccorrected _ _ _ _ _
    | with_reducible exact calm_cquotient _ _ _ _
    | with_reducible exact calm_complexOp _ _ _ _ _ _
    | with_reducible exact calm_stringOp _ _ _
    | with_reducible exact calm_eqGuardIn _ _ _ _
    | with_reducible exact calm_equalIn _ _ _ _
    | with_reducible exact calm_equal _ _ _
    | with_reducible exact calm_eqGuard _ _ _ _ _ _
    | with_reducible exact calm_binOp _ _ _ _
    | with_reducible exact calm_makeChan _ _
    | with_reducible exact calm_extract _ _
    | with_reducible exact calm_freeze _ _
    | with_reducible exact calm_markStringish _
    | with_reducible exact calm_intToInt _ _
    | with_reducible exact calm_intToFloat _ _
    | with_reducible exact calm_floatToInt _ _ _
    | with_reducible exact calm_complexToComplex _ _ _ _
    | with_reducible exact calm_intToString _
    | with_reducible exact calm_stringToBytes _ _
    | with_reducible exact calm_stringToRunes _ _
    | with_reducible exact calm_bytesToString _
    | with_reducible exact calm_runesToString _
    | with_reducible exact calm_seenAt _
    | with_reducible exact calm_cellsIn _
    | with_reducible exact calm_variablesAt _ _ _
    | with_reducible exact calm_unsafePointer _ _ _
    | with_reducible exact calm_convert _ _ _
    | with_reducible exact calm_partAt _ _ _
    | with_reducible exact calm_fieldPlace _ _
    | with_reducible exact calm_fieldAt _ _ _
    | with_reducible exact calm_sliceBound _ _ _
    | with_reducible exact calm_sliceBounds _ _ _ _ _ _
    | with_reducible exact calm_slice _ _ _ _ _
    | with_reducible exact calm_sliceAt _ _ _ _ _
    | with_reducible exact calm_box _ _
    | with_reducible exact calm_build _ _
    | with_reducible exact calm_index _ _ _
    | with_reducible exact calm_asAgg _
    | ((with_reducible refine calm_unsupported _ ?_); intro _ h; cases h)
    | ((with_reducible refine calm_newObj _ ?_); intro _ _ h; cases h)
    | with_reducible exact calm_map _ _ (calm_choose _)
    | with_reducible refine calm_map _ _ ?_
    | with_reducible refine calm_forIn_arr _ _ (fun _ _ => ?_) _
    | with_reducible refine calm_forIn_range _ _ (fun _ _ => ?_) _
    | with_reducible refine calm_getObj_bind _ _ (fun _ => ?_)
    | with_reducible refine calm_mapM_arr _ _ (fun _ => ?_)
    | with_reducible refine calm_mbind _ _ ?_ (fun _ => ?_)
    | with_reducible refine calm_ite _ _ _ (fun _ => ?_) (fun _ => ?_)
    | split
    | dsimp only)
theorem calm_followBlind : ∀ (l : List FieldStep) (t : TypeId) (x : Option Value), Calm P (Go.followBlind l t x)
  | [], _, _ => calm_pure _
  | s :: l, t, x => by
    unfold Go.followBlind
    repeat' (first
      | with_reducible exact calm_followBlind l _ _
      | with_reducible exact calm_pure _
      | with_reducible exact calm_stuck _
      | with_reducible exact calm_goPanic _
      | with_reducible exact calm_load _ _
      | with_reducible exact calm_store _ _ _
      | with_reducible exact calm_shape _
      | with_reducible exact calm_frozen _
      | with_reducible exact calm_choose _
      | with_reducible exact calm_program
      | with_reducible exact calm_room
      | with_reducible exact calm_askRoom _
      | with_reducible exact calm_typeInfo _
      | with_reducible exact calm_underlying _
      | with_reducible exact calm_zeroValue _
      | with_reducible exact calm_sizeOf _
      | with_reducible exact calm_isAgg _
      | with_reducible exact calm_loadCellsFrom _ _ _
      | with_reducible exact calm_loadCells _ _
      | with_reducible exact calm_storeCells _ _ _
      | with_reducible exact calm_loadVar _ _
      | with_reducible exact calm_storeVar _ _ _
      | with_reducible exact calm_newRow _ _
      | with_reducible exact calm_newVar _ _
      | with_reducible exact calm_elemOf _
      | with_reducible exact calm_runtimePanic _
      | with_reducible exact calm_boundsPanic _ _ _ _
      | with_reducible exact calm_asIntOf _
      | with_reducible exact calm_asInt _
      | with_reducible exact calm_asBool _
      | with_reducible exact calm_asAddr _
      | with_reducible exact calm_sureAddr _
      | with_reducible exact calm_loadAt _ _
      | with_reducible exact calm_storeAt _ _ _
      | with_reducible exact calm_lenOf _
      | with_reducible exact calm_firstCells _ _ _
      | with_reducible exact calm_holdsCells _ _
      | with_reducible exact calm_mayShare _ _ _ _ _
      | with_reducible exact calm_len _ _ _
      | with_reducible exact calm_indexAt _ _ _
      | with_reducible exact calm_buildSlice _ _ _
      | with_reducible exact calm_makeSlice _ _ _
      | with_reducible exact calm_append _ _ _
      | with_reducible exact calm_typeStr _
      | with_reducible exact calm_part _ _ _
      | with_reducible exact calm_viewAt _
      | with_reducible exact calm_numberAt _
      | with_reducible exact calm_asNumber _ _
      | with_reducible exact calm_behindNumber _
      | with_reducible exact calm_noView _
      | with_reducible exact calm_stringish _
      | with_reducible exact calm_mayBeOne _ _
      | with_reducible exact calm_sameAddr _ _
      | with_reducible exact calm_samePointer _ _
      | with_reducible exact calm_byteOf _
      | with_reducible exact calm_twoPlaces _ _
      | with_reducible exact calm_addrSub _ _ _
      | with_reducible exact calm_addrCmp _ _ _
      | with_reducible exact calm_addrMod _ _ _
      | with_reducible exact calm_unsafeAdd _ _ _
      | with_reducible exact calm_movedNumber _ _ _
      | with_reducible exact calm_movedPointer _ _ _
      | with_reducible exact calm_intArith _ _ _ _
      | with_reducible exact calm_intDiv _ _ _ _
      | with_reducible exact calm_intBits _ _ _ _
      | with_reducible exact calm_intCmp _ _ _
      | with_reducible exact calm_shift _ _ _ _ _
      | with_reducible exact calm_floatArith _ _ _ _
      | with_reducible exact calm_floatCmp _ _ _ _
      | with_reducible exact calm_floatToFloat _ _ _
      | with_reducible exact calm_carith _ _ _ _
      | with_reducible exact calm_ccmp _ _ _ _
      | with_reducible exact calm_cconv _ _ _
      | with_reducible exact calm_cproduct _ _ _ _
      | with_reducible exact calm_ccorrected _ _ _ _ _
      | with_reducible exact calm_cquotient _ _ _ _
      | with_reducible exact calm_complexOp _ _ _ _ _ _
      | with_reducible exact calm_stringOp _ _ _
      | with_reducible exact calm_eqGuardIn _ _ _ _
      | with_reducible exact calm_equalIn _ _ _ _
      | with_reducible exact calm_equal _ _ _
      | with_reducible exact calm_eqGuard _ _ _ _ _ _
      | with_reducible exact calm_binOp _ _ _ _
      | with_reducible exact calm_makeChan _ _
      | with_reducible exact calm_extract _ _
      | with_reducible exact calm_freeze _ _
      | with_reducible exact calm_markStringish _
      | with_reducible exact calm_intToInt _ _
      | with_reducible exact calm_intToFloat _ _
      | with_reducible exact calm_floatToInt _ _ _
      | with_reducible exact calm_complexToComplex _ _ _ _
      | with_reducible exact calm_intToString _
      | with_reducible exact calm_stringToBytes _ _
      | with_reducible exact calm_stringToRunes _ _
      | with_reducible exact calm_bytesToString _
      | with_reducible exact calm_runesToString _
      | with_reducible exact calm_seenAt _
      | with_reducible exact calm_cellsIn _
      | with_reducible exact calm_variablesAt _ _ _
      | with_reducible exact calm_unsafePointer _ _ _
      | with_reducible exact calm_convert _ _ _
      | with_reducible exact calm_partAt _ _ _
      | with_reducible exact calm_fieldPlace _ _
      | with_reducible exact calm_fieldAt _ _ _
      | with_reducible exact calm_sliceBound _ _ _
      | with_reducible exact calm_sliceBounds _ _ _ _ _ _
      | with_reducible exact calm_slice _ _ _ _ _
      | with_reducible exact calm_sliceAt _ _ _ _ _
      | with_reducible exact calm_box _ _
      | with_reducible exact calm_build _ _
      | with_reducible exact calm_index _ _ _
      | with_reducible exact calm_asAgg _
      | with_reducible exact calm_field _ _ _
      | ((with_reducible refine calm_unsupported _ ?_); intro _ h; cases h)
      | ((with_reducible refine calm_newObj _ ?_); intro _ _ h; cases h)
      | with_reducible exact calm_map _ _ (calm_choose _)
      | with_reducible refine calm_map _ _ ?_
      | with_reducible refine calm_forIn_arr _ _ (fun _ _ => ?_) _
      | with_reducible refine calm_forIn_range _ _ (fun _ _ => ?_) _
      | with_reducible refine calm_getObj_bind _ _ (fun _ => ?_)
      | with_reducible refine calm_mapM_arr _ _ (fun _ => ?_)
      | with_reducible refine calm_mbind _ _ ?_ (fun _ => ?_)
      | with_reducible refine calm_ite _ _ _ (fun _ => ?_) (fun _ => ?_)
      | split
      | dsimp only)
theorem calm_nilAhead : ∀ (d : Nat) (t : TypeId) (v : Value) (n : String), Calm P (Go.nilAhead d t v n)
  | 0, _, _, _ => calm_pure _
  | d + 1, t, v, n => by
    unfold Go.nilAhead
    repeat' (first
      | with_reducible exact calm_nilAhead d _ _ _
      | with_reducible exact calm_pure _
      | with_reducible exact calm_stuck _
      | with_reducible exact calm_goPanic _
      | with_reducible exact calm_load _ _
      | with_reducible exact calm_store _ _ _
      | with_reducible exact calm_shape _
      | with_reducible exact calm_frozen _
      | with_reducible exact calm_choose _
      | with_reducible exact calm_program
      | with_reducible exact calm_room
      | with_reducible exact calm_askRoom _
      | with_reducible exact calm_typeInfo _
      | with_reducible exact calm_underlying _
      | with_reducible exact calm_zeroValue _
      | with_reducible exact calm_sizeOf _
      | with_reducible exact calm_isAgg _
      | with_reducible exact calm_loadCellsFrom _ _ _
      | with_reducible exact calm_loadCells _ _
      | with_reducible exact calm_storeCells _ _ _
      | with_reducible exact calm_loadVar _ _
      | with_reducible exact calm_storeVar _ _ _
      | with_reducible exact calm_newRow _ _
      | with_reducible exact calm_newVar _ _
      | with_reducible exact calm_elemOf _
      | with_reducible exact calm_runtimePanic _
      | with_reducible exact calm_boundsPanic _ _ _ _
      | with_reducible exact calm_asIntOf _
      | with_reducible exact calm_asInt _
      | with_reducible exact calm_asBool _
      | with_reducible exact calm_asAddr _
      | with_reducible exact calm_sureAddr _
      | with_reducible exact calm_loadAt _ _
      | with_reducible exact calm_storeAt _ _ _
      | with_reducible exact calm_lenOf _
      | with_reducible exact calm_firstCells _ _ _
      | with_reducible exact calm_holdsCells _ _
      | with_reducible exact calm_mayShare _ _ _ _ _
      | with_reducible exact calm_len _ _ _
      | with_reducible exact calm_indexAt _ _ _
      | with_reducible exact calm_buildSlice _ _ _
      | with_reducible exact calm_makeSlice _ _ _
      | with_reducible exact calm_append _ _ _
      | with_reducible exact calm_typeStr _
      | with_reducible exact calm_part _ _ _
      | with_reducible exact calm_viewAt _
      | with_reducible exact calm_numberAt _
      | with_reducible exact calm_asNumber _ _
      | with_reducible exact calm_behindNumber _
      | with_reducible exact calm_noView _
      | with_reducible exact calm_stringish _
      | with_reducible exact calm_mayBeOne _ _
      | with_reducible exact calm_sameAddr _ _
      | with_reducible exact calm_samePointer _ _
      | with_reducible exact calm_byteOf _
      | with_reducible exact calm_twoPlaces _ _
      | with_reducible exact calm_addrSub _ _ _
      | with_reducible exact calm_addrCmp _ _ _
      | with_reducible exact calm_addrMod _ _ _
      | with_reducible exact calm_unsafeAdd _ _ _
      | with_reducible exact calm_movedNumber _ _ _
      | with_reducible exact calm_movedPointer _ _ _
      | with_reducible exact calm_intArith _ _ _ _
      | with_reducible exact calm_intDiv _ _ _ _
      | with_reducible exact calm_intBits _ _ _ _
      | with_reducible exact calm_intCmp _ _ _
      | with_reducible exact calm_shift _ _ _ _ _
      | with_reducible exact calm_floatArith _ _ _ _
      | with_reducible exact calm_floatCmp _ _ _ _
      | with_reducible exact calm_floatToFloat _ _ _
      | with_reducible exact calm_carith _ _ _ _
      | with_reducible exact calm_ccmp _ _ _ _
      | with_reducible exact calm_cconv _ _ _
      | with_reducible exact calm_cproduct _ _ _ _
      | with_reducible exact calm_ccorrected _ _ _ _ _
      | with_reducible exact calm_cquotient _ _ _ _
      | with_reducible exact calm_complexOp _ _ _ _ _ _
      | with_reducible exact calm_stringOp _ _ _
      | with_reducible exact calm_eqGuardIn _ _ _ _
      | with_reducible exact calm_equalIn _ _ _ _
      | with_reducible exact calm_equal _ _ _
      | with_reducible exact calm_eqGuard _ _ _ _ _ _
      | with_reducible exact calm_binOp _ _ _ _
      | with_reducible exact calm_makeChan _ _
      | with_reducible exact calm_extract _ _
      | with_reducible exact calm_freeze _ _
      | with_reducible exact calm_markStringish _
      | with_reducible exact calm_intToInt _ _
      | with_reducible exact calm_intToFloat _ _
      | with_reducible exact calm_floatToInt _ _ _
      | with_reducible exact calm_complexToComplex _ _ _ _
      | with_reducible exact calm_intToString _
      | with_reducible exact calm_stringToBytes _ _
      | with_reducible exact calm_stringToRunes _ _
      | with_reducible exact calm_bytesToString _
      | with_reducible exact calm_runesToString _
      | with_reducible exact calm_seenAt _
      | with_reducible exact calm_cellsIn _
      | with_reducible exact calm_variablesAt _ _ _
      | with_reducible exact calm_unsafePointer _ _ _
      | with_reducible exact calm_convert _ _ _
      | with_reducible exact calm_partAt _ _ _
      | with_reducible exact calm_fieldPlace _ _
      | with_reducible exact calm_fieldAt _ _ _
      | with_reducible exact calm_sliceBound _ _ _
      | with_reducible exact calm_sliceBounds _ _ _ _ _ _
      | with_reducible exact calm_slice _ _ _ _ _
      | with_reducible exact calm_sliceAt _ _ _ _ _
      | with_reducible exact calm_box _ _
      | with_reducible exact calm_build _ _
      | with_reducible exact calm_index _ _ _
      | with_reducible exact calm_asAgg _
      | with_reducible exact calm_field _ _ _
      | with_reducible exact calm_followBlind _ _ _
      | ((with_reducible refine calm_unsupported _ ?_); intro _ h; cases h)
      | ((with_reducible refine calm_newObj _ ?_); intro _ _ h; cases h)
      | with_reducible exact calm_map _ _ (calm_choose _)
      | with_reducible refine calm_map _ _ ?_
      | with_reducible refine calm_forIn_arr _ _ (fun _ _ => ?_) _
      | with_reducible refine calm_forIn_range _ _ (fun _ _ => ?_) _
      | with_reducible refine calm_getObj_bind _ _ (fun _ => ?_)
      | with_reducible refine calm_mapM_arr _ _ (fun _ => ?_)
      | with_reducible refine calm_mbind _ _ ?_ (fun _ => ?_)
      | with_reducible refine calm_ite _ _ _ (fun _ => ?_) (fun _ => ?_)
      | split
      | dsimp only)
end Go.Proofs.Ytchfnbcpjiiphaa
