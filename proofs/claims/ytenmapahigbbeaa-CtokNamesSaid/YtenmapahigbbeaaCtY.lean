/- ctok.Keyword and ctok.Canon. -/
import Derived.Test.YtenmapahigbbeaaGen
import Derived.Test.YtenmapahigbbeaaRun
import Derived.Test.YtenmapahigbbeaaShelf
namespace Go.Proofs.Ytenmapahigbbeaa
open Go.RowKit Go.Shelf

def kwL : List (List UInt8) := [[97, 117, 116, 111], [98, 114, 101, 97, 107], [99, 97, 115, 101], [99, 104, 97, 114], [99, 111, 110, 115, 116], [99, 111, 110, 116, 105, 110, 117, 101], [100, 101, 102, 97, 117, 108, 116], [100, 111], [100, 111, 117, 98, 108, 101], [101, 108, 115, 101], [101, 110, 117, 109], [101, 120, 116, 101, 114, 110], [102, 108, 111, 97, 116], [102, 111, 114], [103, 111, 116, 111], [105, 102], [105, 110, 108, 105, 110, 101], [105, 110, 116], [108, 111, 110, 103], [114, 101, 103, 105, 115, 116, 101, 114], [114, 101, 115, 116, 114, 105, 99, 116], [114, 101, 116, 117, 114, 110], [115, 104, 111, 114, 116], [115, 105, 103, 110, 101, 100], [115, 105, 122, 101, 111, 102], [115, 116, 97, 116, 105, 99], [115, 116, 114, 117, 99, 116], [115, 119, 105, 116, 99, 104], [116, 121, 112, 101, 100, 101, 102], [117, 110, 105, 111, 110], [117, 110, 115, 105, 103, 110, 101, 100], [118, 111, 105, 100], [118, 111, 108, 97, 116, 105, 108, 101], [119, 104, 105, 108, 101], [95, 65, 108, 105, 103, 110, 97, 115], [95, 65, 108, 105, 103, 110, 111, 102], [95, 65, 116, 111, 109, 105, 99], [95, 66, 111, 111, 108], [95, 67, 111, 109, 112, 108, 101, 120], [95, 71, 101, 110, 101, 114, 105, 99], [95, 73, 109, 97, 103, 105, 110, 97, 114, 121], [95, 78, 111, 114, 101, 116, 117, 114, 110], [95, 83, 116, 97, 116, 105, 99, 95, 97, 115, 115, 101, 114, 116], [95, 84, 104, 114, 101, 97, 100, 95, 108, 111, 99, 97, 108]]
def kwB (l : List UInt8) : Bool := kwL.contains l
theorem kw_tests (s : ByteArray) : kwB s.data.toList = ((s.toList == [97, 117, 116, 111]) || ((s.toList == [98, 114, 101, 97, 107]) || ((s.toList == [99, 97, 115, 101]) || ((s.toList == [99, 104, 97, 114]) || ((s.toList == [99, 111, 110, 115, 116]) || ((s.toList == [99, 111, 110, 116, 105, 110, 117, 101]) || ((s.toList == [100, 101, 102, 97, 117, 108, 116]) || ((s.toList == [100, 111]) || ((s.toList == [100, 111, 117, 98, 108, 101]) || ((s.toList == [101, 108, 115, 101]) || ((s.toList == [101, 110, 117, 109]) || ((s.toList == [101, 120, 116, 101, 114, 110]) || ((s.toList == [102, 108, 111, 97, 116]) || ((s.toList == [102, 111, 114]) || ((s.toList == [103, 111, 116, 111]) || ((s.toList == [105, 102]) || ((s.toList == [105, 110, 108, 105, 110, 101]) || ((s.toList == [105, 110, 116]) || ((s.toList == [108, 111, 110, 103]) || ((s.toList == [114, 101, 103, 105, 115, 116, 101, 114]) || ((s.toList == [114, 101, 115, 116, 114, 105, 99, 116]) || ((s.toList == [114, 101, 116, 117, 114, 110]) || ((s.toList == [115, 104, 111, 114, 116]) || ((s.toList == [115, 105, 103, 110, 101, 100]) || ((s.toList == [115, 105, 122, 101, 111, 102]) || ((s.toList == [115, 116, 97, 116, 105, 99]) || ((s.toList == [115, 116, 114, 117, 99, 116]) || ((s.toList == [115, 119, 105, 116, 99, 104]) || ((s.toList == [116, 121, 112, 101, 100, 101, 102]) || ((s.toList == [117, 110, 105, 111, 110]) || ((s.toList == [117, 110, 115, 105, 103, 110, 101, 100]) || ((s.toList == [118, 111, 105, 100]) || ((s.toList == [118, 111, 108, 97, 116, 105, 108, 101]) || ((s.toList == [119, 104, 105, 108, 101]) || ((s.toList == [95, 65, 108, 105, 103, 110, 97, 115]) || ((s.toList == [95, 65, 108, 105, 103, 110, 111, 102]) || ((s.toList == [95, 65, 116, 111, 109, 105, 99]) || ((s.toList == [95, 66, 111, 111, 108]) || ((s.toList == [95, 67, 111, 109, 112, 108, 101, 120]) || ((s.toList == [95, 71, 101, 110, 101, 114, 105, 99]) || ((s.toList == [95, 73, 109, 97, 103, 105, 110, 97, 114, 121]) || ((s.toList == [95, 78, 111, 114, 101, 116, 117, 114, 110]) || ((s.toList == [95, 83, 116, 97, 116, 105, 99, 95, 97, 115, 115, 101, 114, 116]) || ((s.toList == [95, 84, 104, 114, 101, 97, 100, 95, 108, 111, 99, 97, 108]))))))))))))))))))))))))))))))))))))))))))))) := by
  rw [ByteArray.toList_eq]
  unfold kwB kwL
  simp only [List.contains_cons, List.contains_nil, Bool.or_false]
theorem two_kw {p : Bool} {q : Prop} (h : p = true) (h2 : p = false) : q := absurd (h.symm.trans h2) (by decide)

set_option maxRecDepth 100000 in
set_option maxHeartbeats 8000000 in
theorem Keyword_any (s : ByteArray) (w : World) : Calls Try.prog 54 #[.string s] w fun e w' => e = .returned (.bool (kwB s.data.toList)) ∧ w = w' := by
  have HK := Lib.hid (kw_tests s)
  generalize kwB s.data.toList = B at *
  go_enter Try.func54, Try.ntmps54
  cases h0 : (s.toList == [97, 117, 116, 111]) with
  | true =>
    have HO : Hid (B = true) := Lib.hid (by rw [HK.out]; simp only [h0, Bool.true_or, Bool.false_or])
    clear HK
    go_wp2
    go_ret
    exact ⟨rb HO.out.symm, rfl⟩
  | false =>
   cases h1 : (s.toList == [98, 114, 101, 97, 107]) with
   | true =>
     have HO : Hid (B = true) := Lib.hid (by rw [HK.out]; simp only [h0, h1, Bool.true_or, Bool.false_or])
     clear HK
     go_wp2
     go_ret
     exact ⟨rb HO.out.symm, rfl⟩
   | false =>
    cases h2 : (s.toList == [99, 97, 115, 101]) with
    | true =>
      have HO : Hid (B = true) := Lib.hid (by rw [HK.out]; simp only [h0, h1, h2, Bool.true_or, Bool.false_or])
      clear HK
      go_wp2
      go_ret
      exact ⟨rb HO.out.symm, rfl⟩
    | false =>
     cases h3 : (s.toList == [99, 104, 97, 114]) with
     | true =>
       have HO : Hid (B = true) := Lib.hid (by rw [HK.out]; simp only [h0, h1, h2, h3, Bool.true_or, Bool.false_or])
       clear HK
       go_wp2
       go_ret
       exact ⟨rb HO.out.symm, rfl⟩
     | false =>
      cases h4 : (s.toList == [99, 111, 110, 115, 116]) with
      | true =>
        have HO : Hid (B = true) := Lib.hid (by rw [HK.out]; simp only [h0, h1, h2, h3, h4, Bool.true_or, Bool.false_or])
        clear HK
        go_wp2
        go_ret
        exact ⟨rb HO.out.symm, rfl⟩
      | false =>
       cases h5 : (s.toList == [99, 111, 110, 116, 105, 110, 117, 101]) with
       | true =>
         have HO : Hid (B = true) := Lib.hid (by rw [HK.out]; simp only [h0, h1, h2, h3, h4, h5, Bool.true_or, Bool.false_or])
         clear HK
         go_wp2
         go_ret
         exact ⟨rb HO.out.symm, rfl⟩
       | false =>
        cases h6 : (s.toList == [100, 101, 102, 97, 117, 108, 116]) with
        | true =>
          have HO : Hid (B = true) := Lib.hid (by rw [HK.out]; simp only [h0, h1, h2, h3, h4, h5, h6, Bool.true_or, Bool.false_or])
          clear HK
          go_wp2
          go_ret
          exact ⟨rb HO.out.symm, rfl⟩
        | false =>
         cases h7 : (s.toList == [100, 111]) with
         | true =>
           have HO : Hid (B = true) := Lib.hid (by rw [HK.out]; simp only [h0, h1, h2, h3, h4, h5, h6, h7, Bool.true_or, Bool.false_or])
           clear HK
           go_wp2
           go_ret
           exact ⟨rb HO.out.symm, rfl⟩
         | false =>
          cases h8 : (s.toList == [100, 111, 117, 98, 108, 101]) with
          | true =>
            have HO : Hid (B = true) := Lib.hid (by rw [HK.out]; simp only [h0, h1, h2, h3, h4, h5, h6, h7, h8, Bool.true_or, Bool.false_or])
            clear HK
            go_wp2
            go_ret
            exact ⟨rb HO.out.symm, rfl⟩
          | false =>
           cases h9 : (s.toList == [101, 108, 115, 101]) with
           | true =>
             have HO : Hid (B = true) := Lib.hid (by rw [HK.out]; simp only [h0, h1, h2, h3, h4, h5, h6, h7, h8, h9, Bool.true_or, Bool.false_or])
             clear HK
             go_wp2
             go_ret
             exact ⟨rb HO.out.symm, rfl⟩
           | false =>
            cases h10 : (s.toList == [101, 110, 117, 109]) with
            | true =>
              have HO : Hid (B = true) := Lib.hid (by rw [HK.out]; simp only [h0, h1, h2, h3, h4, h5, h6, h7, h8, h9, h10, Bool.true_or, Bool.false_or])
              clear HK
              go_wp2
              go_ret
              exact ⟨rb HO.out.symm, rfl⟩
            | false =>
             cases h11 : (s.toList == [101, 120, 116, 101, 114, 110]) with
             | true =>
               have HO : Hid (B = true) := Lib.hid (by rw [HK.out]; simp only [h0, h1, h2, h3, h4, h5, h6, h7, h8, h9, h10, h11, Bool.true_or, Bool.false_or])
               clear HK
               go_wp2
               go_ret
               exact ⟨rb HO.out.symm, rfl⟩
             | false =>
              cases h12 : (s.toList == [102, 108, 111, 97, 116]) with
              | true =>
                have HO : Hid (B = true) := Lib.hid (by rw [HK.out]; simp only [h0, h1, h2, h3, h4, h5, h6, h7, h8, h9, h10, h11, h12, Bool.true_or, Bool.false_or])
                clear HK
                go_wp2
                go_ret
                exact ⟨rb HO.out.symm, rfl⟩
              | false =>
               cases h13 : (s.toList == [102, 111, 114]) with
               | true =>
                 have HO : Hid (B = true) := Lib.hid (by rw [HK.out]; simp only [h0, h1, h2, h3, h4, h5, h6, h7, h8, h9, h10, h11, h12, h13, Bool.true_or, Bool.false_or])
                 clear HK
                 go_wp2
                 go_ret
                 exact ⟨rb HO.out.symm, rfl⟩
               | false =>
                cases h14 : (s.toList == [103, 111, 116, 111]) with
                | true =>
                  have HO : Hid (B = true) := Lib.hid (by rw [HK.out]; simp only [h0, h1, h2, h3, h4, h5, h6, h7, h8, h9, h10, h11, h12, h13, h14, Bool.true_or, Bool.false_or])
                  clear HK
                  go_wp2
                  go_ret
                  exact ⟨rb HO.out.symm, rfl⟩
                | false =>
                 cases h15 : (s.toList == [105, 102]) with
                 | true =>
                   have HO : Hid (B = true) := Lib.hid (by rw [HK.out]; simp only [h0, h1, h2, h3, h4, h5, h6, h7, h8, h9, h10, h11, h12, h13, h14, h15, Bool.true_or, Bool.false_or])
                   clear HK
                   go_wp2
                   go_ret
                   exact ⟨rb HO.out.symm, rfl⟩
                 | false =>
                  cases h16 : (s.toList == [105, 110, 108, 105, 110, 101]) with
                  | true =>
                    have HO : Hid (B = true) := Lib.hid (by rw [HK.out]; simp only [h0, h1, h2, h3, h4, h5, h6, h7, h8, h9, h10, h11, h12, h13, h14, h15, h16, Bool.true_or, Bool.false_or])
                    clear HK
                    go_wp2
                    go_ret
                    exact ⟨rb HO.out.symm, rfl⟩
                  | false =>
                   cases h17 : (s.toList == [105, 110, 116]) with
                   | true =>
                     have HO : Hid (B = true) := Lib.hid (by rw [HK.out]; simp only [h0, h1, h2, h3, h4, h5, h6, h7, h8, h9, h10, h11, h12, h13, h14, h15, h16, h17, Bool.true_or, Bool.false_or])
                     clear HK
                     go_wp2
                     go_ret
                     exact ⟨rb HO.out.symm, rfl⟩
                   | false =>
                    cases h18 : (s.toList == [108, 111, 110, 103]) with
                    | true =>
                      have HO : Hid (B = true) := Lib.hid (by rw [HK.out]; simp only [h0, h1, h2, h3, h4, h5, h6, h7, h8, h9, h10, h11, h12, h13, h14, h15, h16, h17, h18, Bool.true_or, Bool.false_or])
                      clear HK
                      go_wp2
                      go_ret
                      exact ⟨rb HO.out.symm, rfl⟩
                    | false =>
                     cases h19 : (s.toList == [114, 101, 103, 105, 115, 116, 101, 114]) with
                     | true =>
                       have HO : Hid (B = true) := Lib.hid (by rw [HK.out]; simp only [h0, h1, h2, h3, h4, h5, h6, h7, h8, h9, h10, h11, h12, h13, h14, h15, h16, h17, h18, h19, Bool.true_or, Bool.false_or])
                       clear HK
                       go_wp2
                       go_ret
                       exact ⟨rb HO.out.symm, rfl⟩
                     | false =>
                      cases h20 : (s.toList == [114, 101, 115, 116, 114, 105, 99, 116]) with
                      | true =>
                        have HO : Hid (B = true) := Lib.hid (by rw [HK.out]; simp only [h0, h1, h2, h3, h4, h5, h6, h7, h8, h9, h10, h11, h12, h13, h14, h15, h16, h17, h18, h19, h20, Bool.true_or, Bool.false_or])
                        clear HK
                        go_wp2
                        go_ret
                        exact ⟨rb HO.out.symm, rfl⟩
                      | false =>
                       cases h21 : (s.toList == [114, 101, 116, 117, 114, 110]) with
                       | true =>
                         have HO : Hid (B = true) := Lib.hid (by rw [HK.out]; simp only [h0, h1, h2, h3, h4, h5, h6, h7, h8, h9, h10, h11, h12, h13, h14, h15, h16, h17, h18, h19, h20, h21, Bool.true_or, Bool.false_or])
                         clear HK
                         go_wp2
                         go_ret
                         exact ⟨rb HO.out.symm, rfl⟩
                       | false =>
                        cases h22 : (s.toList == [115, 104, 111, 114, 116]) with
                        | true =>
                          have HO : Hid (B = true) := Lib.hid (by rw [HK.out]; simp only [h0, h1, h2, h3, h4, h5, h6, h7, h8, h9, h10, h11, h12, h13, h14, h15, h16, h17, h18, h19, h20, h21, h22, Bool.true_or, Bool.false_or])
                          clear HK
                          go_wp2
                          go_ret
                          exact ⟨rb HO.out.symm, rfl⟩
                        | false =>
                         cases h23 : (s.toList == [115, 105, 103, 110, 101, 100]) with
                         | true =>
                           have HO : Hid (B = true) := Lib.hid (by rw [HK.out]; simp only [h0, h1, h2, h3, h4, h5, h6, h7, h8, h9, h10, h11, h12, h13, h14, h15, h16, h17, h18, h19, h20, h21, h22, h23, Bool.true_or, Bool.false_or])
                           clear HK
                           go_wp2
                           go_ret
                           exact ⟨rb HO.out.symm, rfl⟩
                         | false =>
                          cases h24 : (s.toList == [115, 105, 122, 101, 111, 102]) with
                          | true =>
                            have HO : Hid (B = true) := Lib.hid (by rw [HK.out]; simp only [h0, h1, h2, h3, h4, h5, h6, h7, h8, h9, h10, h11, h12, h13, h14, h15, h16, h17, h18, h19, h20, h21, h22, h23, h24, Bool.true_or, Bool.false_or])
                            clear HK
                            go_wp2
                            go_ret
                            exact ⟨rb HO.out.symm, rfl⟩
                          | false =>
                           cases h25 : (s.toList == [115, 116, 97, 116, 105, 99]) with
                           | true =>
                             have HO : Hid (B = true) := Lib.hid (by rw [HK.out]; simp only [h0, h1, h2, h3, h4, h5, h6, h7, h8, h9, h10, h11, h12, h13, h14, h15, h16, h17, h18, h19, h20, h21, h22, h23, h24, h25, Bool.true_or, Bool.false_or])
                             clear HK
                             go_wp2
                             go_ret
                             exact ⟨rb HO.out.symm, rfl⟩
                           | false =>
                            cases h26 : (s.toList == [115, 116, 114, 117, 99, 116]) with
                            | true =>
                              have HO : Hid (B = true) := Lib.hid (by rw [HK.out]; simp only [h0, h1, h2, h3, h4, h5, h6, h7, h8, h9, h10, h11, h12, h13, h14, h15, h16, h17, h18, h19, h20, h21, h22, h23, h24, h25, h26, Bool.true_or, Bool.false_or])
                              clear HK
                              go_wp2
                              go_ret
                              exact ⟨rb HO.out.symm, rfl⟩
                            | false =>
                             cases h27 : (s.toList == [115, 119, 105, 116, 99, 104]) with
                             | true =>
                               have HO : Hid (B = true) := Lib.hid (by rw [HK.out]; simp only [h0, h1, h2, h3, h4, h5, h6, h7, h8, h9, h10, h11, h12, h13, h14, h15, h16, h17, h18, h19, h20, h21, h22, h23, h24, h25, h26, h27, Bool.true_or, Bool.false_or])
                               clear HK
                               go_wp2
                               go_ret
                               exact ⟨rb HO.out.symm, rfl⟩
                             | false =>
                              cases h28 : (s.toList == [116, 121, 112, 101, 100, 101, 102]) with
                              | true =>
                                have HO : Hid (B = true) := Lib.hid (by rw [HK.out]; simp only [h0, h1, h2, h3, h4, h5, h6, h7, h8, h9, h10, h11, h12, h13, h14, h15, h16, h17, h18, h19, h20, h21, h22, h23, h24, h25, h26, h27, h28, Bool.true_or, Bool.false_or])
                                clear HK
                                go_wp2
                                go_ret
                                exact ⟨rb HO.out.symm, rfl⟩
                              | false =>
                               cases h29 : (s.toList == [117, 110, 105, 111, 110]) with
                               | true =>
                                 have HO : Hid (B = true) := Lib.hid (by rw [HK.out]; simp only [h0, h1, h2, h3, h4, h5, h6, h7, h8, h9, h10, h11, h12, h13, h14, h15, h16, h17, h18, h19, h20, h21, h22, h23, h24, h25, h26, h27, h28, h29, Bool.true_or, Bool.false_or])
                                 clear HK
                                 go_wp2
                                 go_ret
                                 exact ⟨rb HO.out.symm, rfl⟩
                               | false =>
                                cases h30 : (s.toList == [117, 110, 115, 105, 103, 110, 101, 100]) with
                                | true =>
                                  have HO : Hid (B = true) := Lib.hid (by rw [HK.out]; simp only [h0, h1, h2, h3, h4, h5, h6, h7, h8, h9, h10, h11, h12, h13, h14, h15, h16, h17, h18, h19, h20, h21, h22, h23, h24, h25, h26, h27, h28, h29, h30, Bool.true_or, Bool.false_or])
                                  clear HK
                                  go_wp2
                                  go_ret
                                  exact ⟨rb HO.out.symm, rfl⟩
                                | false =>
                                 cases h31 : (s.toList == [118, 111, 105, 100]) with
                                 | true =>
                                   have HO : Hid (B = true) := Lib.hid (by rw [HK.out]; simp only [h0, h1, h2, h3, h4, h5, h6, h7, h8, h9, h10, h11, h12, h13, h14, h15, h16, h17, h18, h19, h20, h21, h22, h23, h24, h25, h26, h27, h28, h29, h30, h31, Bool.true_or, Bool.false_or])
                                   clear HK
                                   go_wp2
                                   go_ret
                                   exact ⟨rb HO.out.symm, rfl⟩
                                 | false =>
                                  cases h32 : (s.toList == [118, 111, 108, 97, 116, 105, 108, 101]) with
                                  | true =>
                                    have HO : Hid (B = true) := Lib.hid (by rw [HK.out]; simp only [h0, h1, h2, h3, h4, h5, h6, h7, h8, h9, h10, h11, h12, h13, h14, h15, h16, h17, h18, h19, h20, h21, h22, h23, h24, h25, h26, h27, h28, h29, h30, h31, h32, Bool.true_or, Bool.false_or])
                                    clear HK
                                    go_wp2
                                    go_ret
                                    exact ⟨rb HO.out.symm, rfl⟩
                                  | false =>
                                   cases h33 : (s.toList == [119, 104, 105, 108, 101]) with
                                   | true =>
                                     have HO : Hid (B = true) := Lib.hid (by rw [HK.out]; simp only [h0, h1, h2, h3, h4, h5, h6, h7, h8, h9, h10, h11, h12, h13, h14, h15, h16, h17, h18, h19, h20, h21, h22, h23, h24, h25, h26, h27, h28, h29, h30, h31, h32, h33, Bool.true_or, Bool.false_or])
                                     clear HK
                                     go_wp2
                                     go_ret
                                     exact ⟨rb HO.out.symm, rfl⟩
                                   | false =>
                                    cases h34 : (s.toList == [95, 65, 108, 105, 103, 110, 97, 115]) with
                                    | true =>
                                      have HO : Hid (B = true) := Lib.hid (by rw [HK.out]; simp only [h0, h1, h2, h3, h4, h5, h6, h7, h8, h9, h10, h11, h12, h13, h14, h15, h16, h17, h18, h19, h20, h21, h22, h23, h24, h25, h26, h27, h28, h29, h30, h31, h32, h33, h34, Bool.true_or, Bool.false_or])
                                      clear HK
                                      go_wp2
                                      go_ret
                                      exact ⟨rb HO.out.symm, rfl⟩
                                    | false =>
                                     cases h35 : (s.toList == [95, 65, 108, 105, 103, 110, 111, 102]) with
                                     | true =>
                                       have HO : Hid (B = true) := Lib.hid (by rw [HK.out]; simp only [h0, h1, h2, h3, h4, h5, h6, h7, h8, h9, h10, h11, h12, h13, h14, h15, h16, h17, h18, h19, h20, h21, h22, h23, h24, h25, h26, h27, h28, h29, h30, h31, h32, h33, h34, h35, Bool.true_or, Bool.false_or])
                                       clear HK
                                       go_wp2
                                       go_ret
                                       exact ⟨rb HO.out.symm, rfl⟩
                                     | false =>
                                      cases h36 : (s.toList == [95, 65, 116, 111, 109, 105, 99]) with
                                      | true =>
                                        have HO : Hid (B = true) := Lib.hid (by rw [HK.out]; simp only [h0, h1, h2, h3, h4, h5, h6, h7, h8, h9, h10, h11, h12, h13, h14, h15, h16, h17, h18, h19, h20, h21, h22, h23, h24, h25, h26, h27, h28, h29, h30, h31, h32, h33, h34, h35, h36, Bool.true_or, Bool.false_or])
                                        clear HK
                                        go_wp2
                                        go_ret
                                        exact ⟨rb HO.out.symm, rfl⟩
                                      | false =>
                                       cases h37 : (s.toList == [95, 66, 111, 111, 108]) with
                                       | true =>
                                         have HO : Hid (B = true) := Lib.hid (by rw [HK.out]; simp only [h0, h1, h2, h3, h4, h5, h6, h7, h8, h9, h10, h11, h12, h13, h14, h15, h16, h17, h18, h19, h20, h21, h22, h23, h24, h25, h26, h27, h28, h29, h30, h31, h32, h33, h34, h35, h36, h37, Bool.true_or, Bool.false_or])
                                         clear HK
                                         go_wp2
                                         go_ret
                                         exact ⟨rb HO.out.symm, rfl⟩
                                       | false =>
                                        cases h38 : (s.toList == [95, 67, 111, 109, 112, 108, 101, 120]) with
                                        | true =>
                                          have HO : Hid (B = true) := Lib.hid (by rw [HK.out]; simp only [h0, h1, h2, h3, h4, h5, h6, h7, h8, h9, h10, h11, h12, h13, h14, h15, h16, h17, h18, h19, h20, h21, h22, h23, h24, h25, h26, h27, h28, h29, h30, h31, h32, h33, h34, h35, h36, h37, h38, Bool.true_or, Bool.false_or])
                                          clear HK
                                          go_wp2
                                          go_ret
                                          exact ⟨rb HO.out.symm, rfl⟩
                                        | false =>
                                         cases h39 : (s.toList == [95, 71, 101, 110, 101, 114, 105, 99]) with
                                         | true =>
                                           have HO : Hid (B = true) := Lib.hid (by rw [HK.out]; simp only [h0, h1, h2, h3, h4, h5, h6, h7, h8, h9, h10, h11, h12, h13, h14, h15, h16, h17, h18, h19, h20, h21, h22, h23, h24, h25, h26, h27, h28, h29, h30, h31, h32, h33, h34, h35, h36, h37, h38, h39, Bool.true_or, Bool.false_or])
                                           clear HK
                                           go_wp2
                                           go_ret
                                           exact ⟨rb HO.out.symm, rfl⟩
                                         | false =>
                                          cases h40 : (s.toList == [95, 73, 109, 97, 103, 105, 110, 97, 114, 121]) with
                                          | true =>
                                            have HO : Hid (B = true) := Lib.hid (by rw [HK.out]; simp only [h0, h1, h2, h3, h4, h5, h6, h7, h8, h9, h10, h11, h12, h13, h14, h15, h16, h17, h18, h19, h20, h21, h22, h23, h24, h25, h26, h27, h28, h29, h30, h31, h32, h33, h34, h35, h36, h37, h38, h39, h40, Bool.true_or, Bool.false_or])
                                            clear HK
                                            go_wp2
                                            go_ret
                                            exact ⟨rb HO.out.symm, rfl⟩
                                          | false =>
                                           cases h41 : (s.toList == [95, 78, 111, 114, 101, 116, 117, 114, 110]) with
                                           | true =>
                                             have HO : Hid (B = true) := Lib.hid (by rw [HK.out]; simp only [h0, h1, h2, h3, h4, h5, h6, h7, h8, h9, h10, h11, h12, h13, h14, h15, h16, h17, h18, h19, h20, h21, h22, h23, h24, h25, h26, h27, h28, h29, h30, h31, h32, h33, h34, h35, h36, h37, h38, h39, h40, h41, Bool.true_or, Bool.false_or])
                                             clear HK
                                             go_wp2
                                             go_ret
                                             exact ⟨rb HO.out.symm, rfl⟩
                                           | false =>
                                            cases h42 : (s.toList == [95, 83, 116, 97, 116, 105, 99, 95, 97, 115, 115, 101, 114, 116]) with
                                            | true =>
                                              have HO : Hid (B = true) := Lib.hid (by rw [HK.out]; simp only [h0, h1, h2, h3, h4, h5, h6, h7, h8, h9, h10, h11, h12, h13, h14, h15, h16, h17, h18, h19, h20, h21, h22, h23, h24, h25, h26, h27, h28, h29, h30, h31, h32, h33, h34, h35, h36, h37, h38, h39, h40, h41, h42, Bool.true_or, Bool.false_or])
                                              clear HK
                                              go_wp2
                                              go_ret
                                              exact ⟨rb HO.out.symm, rfl⟩
                                            | false =>
                                             cases h43 : (s.toList == [95, 84, 104, 114, 101, 97, 100, 95, 108, 111, 99, 97, 108]) with
                                             | true =>
                                               have HO : Hid (B = true) := Lib.hid (by rw [HK.out]; simp only [h0, h1, h2, h3, h4, h5, h6, h7, h8, h9, h10, h11, h12, h13, h14, h15, h16, h17, h18, h19, h20, h21, h22, h23, h24, h25, h26, h27, h28, h29, h30, h31, h32, h33, h34, h35, h36, h37, h38, h39, h40, h41, h42, h43, Bool.true_or, Bool.false_or])
                                               clear HK
                                               go_wp2
                                               go_ret
                                               exact ⟨rb HO.out.symm, rfl⟩
                                             | false =>
                                              have HO : Hid (B = false) := Lib.hid (by rw [HK.out]; simp only [h0, h1, h2, h3, h4, h5, h6, h7, h8, h9, h10, h11, h12, h13, h14, h15, h16, h17, h18, h19, h20, h21, h22, h23, h24, h25, h26, h27, h28, h29, h30, h31, h32, h33, h34, h35, h36, h37, h38, h39, h40, h41, h42, h43, Bool.false_or])
                                              clear HK
                                              go_wp2
                                              go_ret
                                              exact ⟨rb HO.out.symm, rfl⟩

end Go.Proofs.Ytenmapahigbbeaa
