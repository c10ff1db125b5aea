/- Turning orders: all cases. -/
import Derived.Test.YticlfkmjmhjiaaaGreatDoorTtA
import Derived.Test.YticlfkmjmhjiaaaGreatDoorTtB
import Derived.Test.YticlfkmjmhjiaaaGreatDoorTtC
import Derived.Test.YticlfkmjmhjiaaaGreatDoorTtD
import Derived.Test.YticlfkmjmhjiaaaGreatDoorTtE
import Derived.Test.YticlfkmjmhjiaaaGreatDoorTtF
namespace Go.Proofs.YticlfkmjmhjiaaaGreatDoor
open Go Go.Proofs.YticlfkmjmhjiaaaGreatDoor.AX

theorem tk_of {n a l x : Nat} (h : ((List.range' a l).all fun x => tk n x) = true) (h1 : a ≤ x) (h2 : x < a + l) : tk n x = true := List.all_eq_true.1 h x (List.mem_range'_1.2 ⟨h1, h2⟩)
theorem tk_1 (x : Nat) (h : x < 1) : tk 1 x = true := by
  exact tk_of tk_1_0 (by omega) (by omega)
theorem tk_2 (x : Nat) (h : x < 1) : tk 2 x = true := by
  exact tk_of tk_2_0 (by omega) (by omega)
theorem tk_3 (x : Nat) (h : x < 2) : tk 3 x = true := by
  exact tk_of tk_3_0 (by omega) (by omega)
theorem tk_4 (x : Nat) (h : x < 5) : tk 4 x = true := by
  exact tk_of tk_4_0 (by omega) (by omega)
theorem tk_5 (x : Nat) (h : x < 16) : tk 5 x = true := by
  by_cases c0 : x < 6
  · exact tk_of tk_5_0 (by omega) (by omega)
  by_cases c6 : x < 12
  · exact tk_of tk_5_6 (by omega) (by omega)
  exact tk_of tk_5_12 (by omega) (by omega)
theorem tk_6 (x : Nat) (h : x < 61) : tk 6 x = true := by
  by_cases c0 : x < 6
  · exact tk_of tk_6_0 (by omega) (by omega)
  by_cases c6 : x < 12
  · exact tk_of tk_6_6 (by omega) (by omega)
  by_cases c12 : x < 18
  · exact tk_of tk_6_12 (by omega) (by omega)
  by_cases c18 : x < 24
  · exact tk_of tk_6_18 (by omega) (by omega)
  by_cases c24 : x < 30
  · exact tk_of tk_6_24 (by omega) (by omega)
  by_cases c30 : x < 36
  · exact tk_of tk_6_30 (by omega) (by omega)
  by_cases c36 : x < 42
  · exact tk_of tk_6_36 (by omega) (by omega)
  by_cases c42 : x < 48
  · exact tk_of tk_6_42 (by omega) (by omega)
  by_cases c48 : x < 54
  · exact tk_of tk_6_48 (by omega) (by omega)
  by_cases c54 : x < 60
  · exact tk_of tk_6_54 (by omega) (by omega)
  exact tk_of tk_6_60 (by omega) (by omega)
theorem tk_7 (x : Nat) (h : x < 272) : tk 7 x = true := by
  by_cases c0 : x < 6
  · exact tk_of tk_7_0 (by omega) (by omega)
  by_cases c6 : x < 12
  · exact tk_of tk_7_6 (by omega) (by omega)
  by_cases c12 : x < 18
  · exact tk_of tk_7_12 (by omega) (by omega)
  by_cases c18 : x < 24
  · exact tk_of tk_7_18 (by omega) (by omega)
  by_cases c24 : x < 30
  · exact tk_of tk_7_24 (by omega) (by omega)
  by_cases c30 : x < 36
  · exact tk_of tk_7_30 (by omega) (by omega)
  by_cases c36 : x < 42
  · exact tk_of tk_7_36 (by omega) (by omega)
  by_cases c42 : x < 48
  · exact tk_of tk_7_42 (by omega) (by omega)
  by_cases c48 : x < 54
  · exact tk_of tk_7_48 (by omega) (by omega)
  by_cases c54 : x < 60
  · exact tk_of tk_7_54 (by omega) (by omega)
  by_cases c60 : x < 66
  · exact tk_of tk_7_60 (by omega) (by omega)
  by_cases c66 : x < 72
  · exact tk_of tk_7_66 (by omega) (by omega)
  by_cases c72 : x < 78
  · exact tk_of tk_7_72 (by omega) (by omega)
  by_cases c78 : x < 84
  · exact tk_of tk_7_78 (by omega) (by omega)
  by_cases c84 : x < 90
  · exact tk_of tk_7_84 (by omega) (by omega)
  by_cases c90 : x < 96
  · exact tk_of tk_7_90 (by omega) (by omega)
  by_cases c96 : x < 102
  · exact tk_of tk_7_96 (by omega) (by omega)
  by_cases c102 : x < 108
  · exact tk_of tk_7_102 (by omega) (by omega)
  by_cases c108 : x < 114
  · exact tk_of tk_7_108 (by omega) (by omega)
  by_cases c114 : x < 120
  · exact tk_of tk_7_114 (by omega) (by omega)
  by_cases c120 : x < 126
  · exact tk_of tk_7_120 (by omega) (by omega)
  by_cases c126 : x < 132
  · exact tk_of tk_7_126 (by omega) (by omega)
  by_cases c132 : x < 138
  · exact tk_of tk_7_132 (by omega) (by omega)
  by_cases c138 : x < 144
  · exact tk_of tk_7_138 (by omega) (by omega)
  by_cases c144 : x < 150
  · exact tk_of tk_7_144 (by omega) (by omega)
  by_cases c150 : x < 156
  · exact tk_of tk_7_150 (by omega) (by omega)
  by_cases c156 : x < 162
  · exact tk_of tk_7_156 (by omega) (by omega)
  by_cases c162 : x < 168
  · exact tk_of tk_7_162 (by omega) (by omega)
  by_cases c168 : x < 174
  · exact tk_of tk_7_168 (by omega) (by omega)
  by_cases c174 : x < 180
  · exact tk_of tk_7_174 (by omega) (by omega)
  by_cases c180 : x < 186
  · exact tk_of tk_7_180 (by omega) (by omega)
  by_cases c186 : x < 192
  · exact tk_of tk_7_186 (by omega) (by omega)
  by_cases c192 : x < 198
  · exact tk_of tk_7_192 (by omega) (by omega)
  by_cases c198 : x < 204
  · exact tk_of tk_7_198 (by omega) (by omega)
  by_cases c204 : x < 210
  · exact tk_of tk_7_204 (by omega) (by omega)
  by_cases c210 : x < 216
  · exact tk_of tk_7_210 (by omega) (by omega)
  by_cases c216 : x < 222
  · exact tk_of tk_7_216 (by omega) (by omega)
  by_cases c222 : x < 228
  · exact tk_of tk_7_222 (by omega) (by omega)
  by_cases c228 : x < 234
  · exact tk_of tk_7_228 (by omega) (by omega)
  by_cases c234 : x < 240
  · exact tk_of tk_7_234 (by omega) (by omega)
  by_cases c240 : x < 246
  · exact tk_of tk_7_240 (by omega) (by omega)
  by_cases c246 : x < 252
  · exact tk_of tk_7_246 (by omega) (by omega)
  by_cases c252 : x < 258
  · exact tk_of tk_7_252 (by omega) (by omega)
  by_cases c258 : x < 264
  · exact tk_of tk_7_258 (by omega) (by omega)
  by_cases c264 : x < 270
  · exact tk_of tk_7_264 (by omega) (by omega)
  exact tk_of tk_7_270 (by omega) (by omega)
theorem tk_all (n x : Nat) (h1 : 1 ≤ n) (h2 : n ≤ 7) (h3 : x < cnt7 n) : tk n x = true := by
  by_cases e1 : n = 1
  · subst e1; exact tk_1 x h3
  by_cases e2 : n = 2
  · subst e2; exact tk_2 x h3
  by_cases e3 : n = 3
  · subst e3; exact tk_3 x h3
  by_cases e4 : n = 4
  · subst e4; exact tk_4 x h3
  by_cases e5 : n = 5
  · subst e5; exact tk_5 x h3
  by_cases e6 : n = 6
  · subst e6; exact tk_6 x h3
  by_cases e7 : n = 7
  · subst e7; exact tk_7 x h3
  omega
theorem topTurning_u (a b : Int) (wa : (Lit.int .u8 a).wf = true) (wb : (Lit.int .u16 b).wf = true) (H : AH) (hg : HasG gs H) : AC Tryz.prog 3 [.int .u8 a, .int .u16 b] H fun v _ => v = .bool true := by
  obtain ⟨a, rfl, ha⟩ := u8_of wa
  obtain ⟨b, rfl, hb⟩ := u16_of wb
  exact topTurning_ac a b ha hb H hg tk_all
end Go.Proofs.YticlfkmjmhjiaaaGreatDoor
