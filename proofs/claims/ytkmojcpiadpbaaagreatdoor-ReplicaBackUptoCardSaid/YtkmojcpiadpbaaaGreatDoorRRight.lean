/-
  Whether a message is right.
-/
import Derived.Test.YtkmojcpiadpbaaaGreatDoorRRightA
import Derived.Test.YtkmojcpiadpbaaaGreatDoorRRightB
import Derived.Test.YtkmojcpiadpbaaaGreatDoorRRightC
import Derived.Test.YtkmojcpiadpbaaaGreatDoorRRightD
namespace Go.Proofs.YtkmojcpiadpbaaaGreatDoor
set_option maxRecDepth 100000
open Go Go.RowKit Go.Sort Rp

theorem right_c {G : Nat → Prop} {w : World} {b : Nat} {lv : Value} {r : R} (h : RepAt w b lv r) (p : PM) (hp : p.ok G w) (hn : p.m.rs.length ≤ 9223372036854775807) (hd : ∀ x ∈ p.m.rs, x.d.length ≤ 9223372036854775807) : Calls Tryz.prog 47 #[.pointer (some ⟨b, 0, none⟩), p.val] w fun e w' => e = .returned (.bool (right r.id p.m)) ∧ Below w.heap.size w w' := by
  obtain ⟨⟨mk, mfr, mdst, mtm, mix, mpv, mcm, myes, mrs⟩, ma, mc⟩ := p
  show Calls Tryz.prog 47 #[.pointer (some ⟨b, 0, none⟩), .agg #[.int .i64 mk, .int .i64 mfr, .int .i64 mdst, .int .i64 mtm, .int .i64 mix, .int .i64 mpv, .int .i64 mcm, .bool myes, .slice ma mrs.length mc]] w fun e w' => e = .returned (.bool (right r.id ⟨mk, mfr, mdst, mtm, mix, mpv, mcm, myes, mrs⟩)) ∧ Below w.heap.size w w'
  by_cases q1 : 0 ≤ mk ∧ mk ≤ 3
  · by_cases q2 : mdst = r.id
    · by_cases q3 : 0 ≤ mfr ∧ mfr ≤ 2
      · by_cases q4 : mfr ≠ r.id
        · by_cases q5 : 1 ≤ mtm ∧ mtm ≤ 1099511627776
          · by_cases q6 : 0 ≤ mix ∧ mix ≤ 4000
            · by_cases q7 : 0 ≤ mpv ∧ mpv ≤ mtm
              · by_cases q8 : 0 < mix
                · by_cases q9 : 0 ≤ mcm ∧ mcm ≤ 4000
                  · by_cases q10 : mrs.length ≤ 8
                    · by_cases q11 : mix + (mrs.length : Int) ≤ 4000
                      · exact right_pt h mk mfr mdst mtm mix mpv mcm myes mrs ma mc hp hn hd  q1 q2 q3 q4 q5 q6 q7 q8 q9 q10 q11
                      · exact right_p11 h mk mfr mdst mtm mix mpv mcm myes mrs ma mc hp hn hd  q1 q2 q3 q4 q5 q6 q7 q8 q9 q10 q11
                    · exact right_p10 h mk mfr mdst mtm mix mpv mcm myes mrs ma mc hp hn hd  q1 q2 q3 q4 q5 q6 q7 q8 q9 q10
                  · exact right_p9 h mk mfr mdst mtm mix mpv mcm myes mrs ma mc hp hn hd  q1 q2 q3 q4 q5 q6 q7 q8 q9
                · by_cases q8z : mpv = 0
                  · by_cases q9 : 0 ≤ mcm ∧ mcm ≤ 4000
                    · by_cases q10 : mrs.length ≤ 8
                      · exact right_zt h mk mfr mdst mtm mix mpv mcm myes mrs ma mc hp hn hd  q1 q2 q3 q4 q5 q6 q7 q8 q8z q9 q10 (by omega)
                      · exact right_z10 h mk mfr mdst mtm mix mpv mcm myes mrs ma mc hp hn hd  q1 q2 q3 q4 q5 q6 q7 q8 q8z q9 q10
                    · exact right_z9 h mk mfr mdst mtm mix mpv mcm myes mrs ma mc hp hn hd  q1 q2 q3 q4 q5 q6 q7 q8 q8z q9
                  · exact right_8 h mk mfr mdst mtm mix mpv mcm myes mrs ma mc hp hn hd  q1 q2 q3 q4 q5 q6 q7 q8 q8z
              · exact right_7 h mk mfr mdst mtm mix mpv mcm myes mrs ma mc hp hn hd  q1 q2 q3 q4 q5 q6 q7
            · exact right_6 h mk mfr mdst mtm mix mpv mcm myes mrs ma mc hp hn hd  q1 q2 q3 q4 q5 q6
          · exact right_5 h mk mfr mdst mtm mix mpv mcm myes mrs ma mc hp hn hd  q1 q2 q3 q4 q5
        · exact right_4 h mk mfr mdst mtm mix mpv mcm myes mrs ma mc hp hn hd  q1 q2 q3 q4
      · exact right_3 h mk mfr mdst mtm mix mpv mcm myes mrs ma mc hp hn hd  q1 q2 q3
    · exact right_2 h mk mfr mdst mtm mix mpv mcm myes mrs ma mc hp hn hd  q1 q2
  · exact right_1 h mk mfr mdst mtm mix mpv mcm myes mrs ma mc hp hn hd  q1
end Go.Proofs.YtkmojcpiadpbaaaGreatDoor
