/- Rooms by a key: the length of a map, and the room of a key. -/
import Derived.Test.YtjaefngmidllgaaBas
namespace Go.Proofs.Ytjaefngmidllgaa.St
open Go Go.Proofs.Ytjaefngmidllgaa Go.Proofs.Ytjaefngmidllgaa.AX
set_option maxRecDepth 100000
set_option linter.unusedVariables false
theorem relEs_len {σ : Inj} : ∀ {l : List (AV × AV)} {es : List MapEntry}, RelEs σ l es → l.length = es.length
  | [], [], _ => rfl
  | [], _ :: _, h => h.elim
  | _ :: _, [], h => h.elim
  | _ :: l, _ :: es, h => by simp [relEs_len h.2.2]
/-- The length of a map. -/
theorem AO_mlen {P : Program} {nt : Nat} {e : Env} {H : AH} {ops : Array Oper} {Q : Env → AH → Prop} {o : Oper} {rest : List Oper} {x : Operand} {t : TypeId} {r : Nat} {l : List (AV × AV)} (hw : wantedA ops e o = some true) (ho : o.op = .call ⟨.builtin .len, #[x], #[t]⟩) (ht : (mapT P t).isSome = true) (hx : oval e x = .map r) (hm : H[r]? = some (.map l)) (hd : dstOk nt o.dst = true)
    (hk : AO P nt ops rest (putDst e o.dst (some (.int .i64 (l.length : Int)))) H Q) : AO P nt ops (o :: rest) e H Q := fun ro base w0 σ w a ho2 S hr => by
  obtain ⟨b, es, clock, g1, g2, g3, g4⟩ := (S.maps r l hm).at_
  obtain ⟨⟨d, z⟩, hmt⟩ := Option.isSome_iff_exists.1 ht
  obtain ⟨kt, et, c, hu, -, -, -⟩ := mapT_some hmt
  have hxr := oval_rel hr x
  rw [hx] at hxr
  generalize hxc : a.eval x = xc at hxr
  cases hxr with
  | map hmb =>
  rw [g1] at hmb; cases hmb
  have hlen := relEs_len g4
  refine wpListIn_wanted (wantedA_sound hr hw) (oper_of (fun c' => by rw [ho]; intro h; cases h) ?_)
  have hx2 : (execOp a.eval o).run P w = .ok (.value (.int .i64 (l.length : Int))) w := by
    unfold execOp
    rw [ho]
    simp only []
    have : (Builtin.len_ #[t] o.type #[Value.map (some b)]).run P w = .ok (.int .i64 (l.length : Int)) w := by
      simp [Builtin.len_, run_underlying hu, MapKept.run_getObj_map g3, hlen, goInt]
    simp [resolve, hxc, invoke, builtin, this]
  rw [hx2]
  exact wpListIn_mono (fun _ _ _ h => h.after (.refl σ)) rest _ _ (hk ro base w0 σ w _ ho2 S (hr.putDst hd (fun u' hu => by cases hu; exact .int _ _)))
theorem mt76 : mapT Try.prog 76 = some (.int .i64, .int .i64 0) := by kernel_rfl
theorem mt55 : mapT Try.prog 55 = some (.array 2 3, .int .i64 0) := by kernel_rfl
theorem mt95 : mapT Try.prog 95 = some (.array 9 3, .int .i64 0) := by kernel_rfl
theorem at55 : arrT Try.prog 55 = some (2, .i64) := by kernel_rfl
theorem at95 : arrT Try.prog 95 = some (9, .i64) := by kernel_rfl
/-- The rooms' keys after one more. -/
def nx {K : Type} [BEq K] (s : List K) (k : K) : List K := if s.contains k then s else s ++ [k]
theorem room_ac (s : List Int) (k : Int) (r : Nat) (H : AH) (hm : MapI H r (mpF 0 s)) (Q : AV → AH → Prop) (h : Q (.int .i64 (s.idxOf k : Nat)) (if k ∈ s then H ++ [AObj.row [.map r] 0 0 false] else (H ++ [AObj.row [.map r] 0 0 false]).set r (.map (mapL (mpF 0 (s ++ [k])))))) : AC Try.prog 88 [.agg [.map r], .int .i64 k] H Q := by
  refine L_body 24 Try.func88 rfl rfl ?_
  refine L_reg [1, 2] (fun K hK => ?_)
  simp [AV.isU, acells]
  apply hK; clear hK K
  have hrl : r < H.length := (List.getElem?_eq_some_iff.1 hm).1
  have hp : (H ++ [AObj.row [.map r] 0 0 false])[H.length]? = some (.row [.map r] 0 0 false) := by simp
  have hE : Ext H (H ++ [AObj.row [.map r] 0 0 false]) := .push _ _
  have hm1 : MapI (H ++ [AObj.row [.map r] 0 0 false]) r (mpF 0 s) := hE.row hm
  generalize H ++ [AObj.row [.map r] 0 0 false] = H1 at h hp hE hm1 ⊢
  have hl := ld_row (v := 0) (p := 0) hp
  have hlk := look_I (ok := true) (k := k) mt76 hm1
  rw [mpF_look] at hlk
  have hld : ld H1 H.length 0 0 = some (.map r) := by rw [ld_row hp]; rfl
  by_cases c : k ∈ s
  · rw [if_pos c] at h hlk
    refine L_reg [1, 2, 5, 6] (fun K hK => ?_)
    simp [hld, hlk, lookV]
    apply hK; clear hK K
    refine L_reg [1, 2, 5, 15] (fun K hK => ?_)
    simp
    apply hK; clear hK K
    refine L_false rfl ?_
    refine L_reg [4] (fun K hK => ?_)
    simp
    apply hK; clear hK K
    exact L_ret ⟨.inr rfl, _, rfl, (by simpa using h)⟩
  · rw [if_neg c] at h hlk
    refine L_reg [1, 2, 5, 6] (fun K hK => ?_)
    simp [hld, hlk, lookV]
    apply hK; clear hK K
    refine L_reg [1, 2, 5, 15] (fun K hK => ?_)
    simp
    apply hK; clear hK K
    refine L_true rfl ?_
    refine AWL_cons (AW_region [1, 2, 5] ?_)
    refine AO_op (v := some (.ptr H.length 0 0)) (H' := H1) rfl (by simp) rfl ?_
    refine AO_op (v := some (.map r)) (H' := H1) rfl (by simp [hld]) rfl ?_
    refine AO_mlen (r := r) (l := mapL (mpF 0 s)) rfl rfl (by rw [mt76]; rfl) rfl hm1 rfl ?_
    refine AO_op (v := some (.int .i64 (s.length : Nat))) (H' := H1) rfl (by simp [mapL, mpF_len]) rfl ?_
    refine AO_nil ?_
    show AWL _ _ _ _ _ _
    have hput := put_I (v := .int .i64 (s.length : Nat)) (k := k) mt76 hm1
    rw [putL_new s 0 k c (by simp)] at hput
    refine L_reg [5] (fun K hK => ?_)
    simp [hld, hput]
    apply hK; clear hK K
    refine L_reg [4] (fun K hK => ?_)
    simp
    apply hK; clear hK K
    rw [List.idxOf_eq_length c] at h
    exact L_ret ⟨.inr rfl, _, rfl, h⟩
theorem ldn_ints_row {H : AH} {r : Nat} {k : List Int} {s : Nat} {ro : Bool} (hr : H[r]? = some (.row (k.map (.int .i64)) 0 s ro)) : ldn H r 0 k.length 0 = some (k.map (.int .i64)) := ldn_ints fun i hi => by
  rw [ld_row hr]; simp [hi, known]
theorem room95_ac (s : List (List Int)) (k : List Int) (r : Nat) (H : AH) (hm : MapA H r (mpF 0 s)) (hk : okKey 2 k) (hs : ∀ x ∈ s, okKey 2 x) (Q : AV → AH → Prop) (h : Q (.int .i64 (s.idxOf k : Nat)) (if k ∈ s then H ++ [AObj.row [.map r] 0 0 false, AObj.row (k.map (.int .i64)) 0 0 false] else (H ++ [AObj.row [.map r] 0 0 false, AObj.row (k.map (.int .i64)) 0 0 false]).set r (.map (mapLA (mpF 0 (s ++ [k])))))) : AC Try.prog 95 [.agg [.map r], .agg (k.map (.int .i64))] H Q := by
  refine L_body 24 Try.func95 rfl rfl ?_
  refine L_reg [2, 3] (fun K hK => ?_)
  simp [AV.isU, acells]
  apply hK; clear hK K
  have hrl : r < H.length := (List.getElem?_eq_some_iff.1 hm).1
  have hp : (H ++ [AObj.row [.map r] 0 0 false, AObj.row (k.map (.int .i64)) 0 0 false])[H.length]? = some (.row [.map r] 0 0 false) := by simp
  have hq : (H ++ [AObj.row [.map r] 0 0 false, AObj.row (k.map (.int .i64)) 0 0 false])[H.length + 1]? = some (.row (k.map (.int .i64)) 0 0 false) := by simp
  have hE : Ext H (H ++ [AObj.row [.map r] 0 0 false, AObj.row (k.map (.int .i64)) 0 0 false]) := .push _ _
  have hm1 : MapA (H ++ [AObj.row [.map r] 0 0 false, AObj.row (k.map (.int .i64)) 0 0 false]) r (mpF 0 s) := hE.row hm
  generalize H ++ [AObj.row [.map r] 0 0 false, AObj.row (k.map (.int .i64)) 0 0 false] = H1 at h hp hq hE hm1 ⊢
  have hsm : ∀ p ∈ mpF 0 s, okKey 2 p.1 := fun p hp => hs _ (mpF_mem s 0 p hp)
  have hlk := look_A (ok := true) mt55 at55 hm1 hk hsm
  rw [mpF_look] at hlk
  have hld : ld H1 H.length 0 0 = some (.map r) := by rw [ld_row hp]; rfl
  have hlk2 : ldn H1 (H.length + 1) 0 2 0 = some (k.map (.int .i64)) := by have := ldn_ints_row hq; rw [hk.1] at this; exact this
  by_cases c : k ∈ s
  · rw [if_pos c] at h hlk
    refine L_reg [2, 3, 5, 6] (fun K hK => ?_)
    simp [hld, hlk2, hlk, lookV]
    apply hK; clear hK K
    refine L_reg [2, 3, 5, 15] (fun K hK => ?_)
    simp
    apply hK; clear hK K
    refine L_false rfl ?_
    refine L_reg [4] (fun K hK => ?_)
    simp
    apply hK; clear hK K
    exact L_ret ⟨.inr rfl, _, rfl, (by simpa using h)⟩
  · rw [if_neg c] at h hlk
    refine L_reg [2, 3, 5, 6] (fun K hK => ?_)
    simp [hld, hlk2, hlk, lookV]
    apply hK; clear hK K
    refine L_reg [2, 3, 5, 15] (fun K hK => ?_)
    simp
    apply hK; clear hK K
    refine L_true rfl ?_
    refine AWL_cons (AW_region [2, 3, 5] ?_)
    refine AO_op (v := some (.ptr H.length 0 0)) (H' := H1) rfl (by simp) rfl ?_
    refine AO_op (v := some (.map r)) (H' := H1) rfl (by simp [hld]) rfl ?_
    refine AO_mlen (r := r) (l := mapLA (mpF 0 s)) rfl rfl (by rw [mt55]; rfl) rfl hm1 rfl ?_
    refine AO_op (v := some (.int .i64 (s.length : Nat))) (H' := H1) rfl (by simp [mapLA, mpF_len]) rfl ?_
    refine AO_nil ?_
    show AWL _ _ _ _ _ _
    have hput := put_A (v := .int .i64 (s.length : Nat)) mt55 at55 hm1 hk hsm
    rw [putLA_new s 0 k c (by simp)] at hput
    refine L_reg [5] (fun K hK => ?_)
    simp [hld, hlk2, hput]
    apply hK; clear hK K
    refine L_reg [4] (fun K hK => ?_)
    simp
    apply hK; clear hK K
    rw [List.idxOf_eq_length c] at h
    exact L_ret ⟨.inr rfl, _, rfl, h⟩
theorem room96_ac (s : List (List Int)) (k : List Int) (r : Nat) (H : AH) (hm : MapA H r (mpF 0 s)) (hk : okKey 9 k) (hs : ∀ x ∈ s, okKey 9 x) (Q : AV → AH → Prop) (h : Q (.int .i64 (s.idxOf k : Nat)) (if k ∈ s then H ++ [AObj.row [.map r] 0 0 false, AObj.row (k.map (.int .i64)) 0 0 false] else (H ++ [AObj.row [.map r] 0 0 false, AObj.row (k.map (.int .i64)) 0 0 false]).set r (.map (mapLA (mpF 0 (s ++ [k])))))) : AC Try.prog 96 [.agg [.map r], .agg (k.map (.int .i64))] H Q := by
  refine L_body 24 Try.func96 rfl rfl ?_
  refine L_reg [2, 3] (fun K hK => ?_)
  simp [AV.isU, acells]
  apply hK; clear hK K
  have hrl : r < H.length := (List.getElem?_eq_some_iff.1 hm).1
  have hp : (H ++ [AObj.row [.map r] 0 0 false, AObj.row (k.map (.int .i64)) 0 0 false])[H.length]? = some (.row [.map r] 0 0 false) := by simp
  have hq : (H ++ [AObj.row [.map r] 0 0 false, AObj.row (k.map (.int .i64)) 0 0 false])[H.length + 1]? = some (.row (k.map (.int .i64)) 0 0 false) := by simp
  have hE : Ext H (H ++ [AObj.row [.map r] 0 0 false, AObj.row (k.map (.int .i64)) 0 0 false]) := .push _ _
  have hm1 : MapA (H ++ [AObj.row [.map r] 0 0 false, AObj.row (k.map (.int .i64)) 0 0 false]) r (mpF 0 s) := hE.row hm
  generalize H ++ [AObj.row [.map r] 0 0 false, AObj.row (k.map (.int .i64)) 0 0 false] = H1 at h hp hq hE hm1 ⊢
  have hsm : ∀ p ∈ mpF 0 s, okKey 9 p.1 := fun p hp => hs _ (mpF_mem s 0 p hp)
  have hlk := look_A (ok := true) mt95 at95 hm1 hk hsm
  rw [mpF_look] at hlk
  have hld : ld H1 H.length 0 0 = some (.map r) := by rw [ld_row hp]; rfl
  have hlk2 : ldn H1 (H.length + 1) 0 9 0 = some (k.map (.int .i64)) := by have := ldn_ints_row hq; rw [hk.1] at this; exact this
  by_cases c : k ∈ s
  · rw [if_pos c] at h hlk
    refine L_reg [2, 3, 5, 6] (fun K hK => ?_)
    simp [hld, hlk2, hlk, lookV]
    apply hK; clear hK K
    refine L_reg [2, 3, 5, 15] (fun K hK => ?_)
    simp
    apply hK; clear hK K
    refine L_false rfl ?_
    refine L_reg [4] (fun K hK => ?_)
    simp
    apply hK; clear hK K
    exact L_ret ⟨.inr rfl, _, rfl, (by simpa using h)⟩
  · rw [if_neg c] at h hlk
    refine L_reg [2, 3, 5, 6] (fun K hK => ?_)
    simp [hld, hlk2, hlk, lookV]
    apply hK; clear hK K
    refine L_reg [2, 3, 5, 15] (fun K hK => ?_)
    simp
    apply hK; clear hK K
    refine L_true rfl ?_
    refine AWL_cons (AW_region [2, 3, 5] ?_)
    refine AO_op (v := some (.ptr H.length 0 0)) (H' := H1) rfl (by simp) rfl ?_
    refine AO_op (v := some (.map r)) (H' := H1) rfl (by simp [hld]) rfl ?_
    refine AO_mlen (r := r) (l := mapLA (mpF 0 s)) rfl rfl (by rw [mt95]; rfl) rfl hm1 rfl ?_
    refine AO_op (v := some (.int .i64 (s.length : Nat))) (H' := H1) rfl (by simp [mapLA, mpF_len]) rfl ?_
    refine AO_nil ?_
    show AWL _ _ _ _ _ _
    have hput := put_A (v := .int .i64 (s.length : Nat)) mt95 at95 hm1 hk hsm
    rw [putLA_new s 0 k c (by simp)] at hput
    refine L_reg [5] (fun K hK => ?_)
    simp [hld, hlk2, hput]
    apply hK; clear hK K
    refine L_reg [4] (fun K hK => ?_)
    simp
    apply hK; clear hK K
    rw [List.idxOf_eq_length c] at h
    exact L_ret ⟨.inr rfl, _, rfl, h⟩
end Go.Proofs.Ytjaefngmidllgaa.St
