/- The tables of the types and functions of the program, for the evaluator. Made by a program of mine. -/
import Derived.Test.YtclhglickeoocaaGreatDoorProg
import Derived.Test.YtclhglickeoocaaGreatDoorER
import Derived.KernelRfl
namespace Go.Ev.Tryz
open Go.Proofs
theorem ty1 : mkTI Tryz.prog 1 = some (tiOf Tryz.t1 Tryz.t1.desc Tryz.t1.size) := by kernel_rfl
theorem ty2 : mkTI Tryz.prog 2 = some (tiOf Tryz.t2 Tryz.t2.desc Tryz.t2.size) := by kernel_rfl
theorem ty3 : mkTI Tryz.prog 3 = some (tiOf Tryz.t3 Tryz.t3.desc Tryz.t3.size) := by kernel_rfl
theorem ty4 : mkTI Tryz.prog 4 = some (tiOf Tryz.t4 Tryz.t4.desc Tryz.t4.size) := by kernel_rfl
theorem ty5 : mkTI Tryz.prog 5 = some (tiOf Tryz.t5 Tryz.t5.desc Tryz.t5.size) := by kernel_rfl
theorem ty6 : mkTI Tryz.prog 6 = some (tiOf Tryz.t6 Tryz.t5.desc Tryz.t6.size) := by kernel_rfl
theorem ty7 : mkTI Tryz.prog 7 = some (tiOf Tryz.t7 Tryz.t7.desc Tryz.t7.size) := by kernel_rfl
theorem ty8 : mkTI Tryz.prog 8 = some (tiOf Tryz.t8 Tryz.t7.desc Tryz.t8.size) := by kernel_rfl
theorem ty9 : mkTI Tryz.prog 9 = some (tiOf Tryz.t9 Tryz.t9.desc Tryz.t9.size) := by kernel_rfl
theorem ty10 : mkTI Tryz.prog 10 = some (tiOf Tryz.t10 Tryz.t9.desc Tryz.t10.size) := by kernel_rfl
theorem ty11 : mkTI Tryz.prog 11 = some (tiOf Tryz.t11 Tryz.t9.desc Tryz.t11.size) := by kernel_rfl
theorem ty12 : mkTI Tryz.prog 12 = some (tiOf Tryz.t12 Tryz.t12.desc Tryz.t12.size) := by kernel_rfl
theorem ty13 : mkTI Tryz.prog 13 = some (tiOf Tryz.t13 Tryz.t13.desc Tryz.t13.size) := by kernel_rfl
theorem ty14 : mkTI Tryz.prog 14 = some (tiOf Tryz.t14 Tryz.t13.desc Tryz.t14.size) := by kernel_rfl
theorem ty15 : mkTI Tryz.prog 15 = some (tiOf Tryz.t15 Tryz.t15.desc Tryz.t15.size) := by kernel_rfl
theorem ty16 : mkTI Tryz.prog 16 = some (tiOf Tryz.t16 Tryz.t16.desc Tryz.t16.size) := by kernel_rfl
theorem ty17 : mkTI Tryz.prog 17 = some (tiOf Tryz.t17 Tryz.t17.desc Tryz.t17.size) := by kernel_rfl
theorem ty18 : mkTI Tryz.prog 18 = some (tiOf Tryz.t18 Tryz.t18.desc Tryz.t18.size) := by kernel_rfl
theorem ty19 : mkTI Tryz.prog 19 = some (tiOf Tryz.t19 Tryz.t18.desc Tryz.t19.size) := by kernel_rfl
theorem ty20 : mkTI Tryz.prog 20 = some (tiOf Tryz.t20 Tryz.t20.desc Tryz.t20.size) := by kernel_rfl
theorem ty21 : mkTI Tryz.prog 21 = some (tiOf Tryz.t21 Tryz.t21.desc Tryz.t21.size) := by kernel_rfl
theorem ty22 : mkTI Tryz.prog 22 = some (tiOf Tryz.t22 Tryz.t22.desc Tryz.t22.size) := by kernel_rfl
theorem ty23 : mkTI Tryz.prog 23 = some (tiOf Tryz.t23 Tryz.t23.desc Tryz.t23.size) := by kernel_rfl
theorem ty24 : mkTI Tryz.prog 24 = some (tiOf Tryz.t24 Tryz.t24.desc Tryz.t24.size) := by kernel_rfl
theorem ty25 : mkTI Tryz.prog 25 = some (tiOf Tryz.t25 Tryz.t25.desc Tryz.t25.size) := by kernel_rfl
theorem ty26 : mkTI Tryz.prog 26 = some (tiOf Tryz.t26 Tryz.t3.desc Tryz.t26.size) := by kernel_rfl
theorem ty27 : mkTI Tryz.prog 27 = some (tiOf Tryz.t27 Tryz.t27.desc Tryz.t27.size) := by kernel_rfl
theorem ty28 : mkTI Tryz.prog 28 = some (tiOf Tryz.t28 Tryz.t28.desc Tryz.t28.size) := by kernel_rfl
theorem ty29 : mkTI Tryz.prog 29 = some (tiOf Tryz.t29 Tryz.t29.desc Tryz.t29.size) := by kernel_rfl
theorem ty30 : mkTI Tryz.prog 30 = some (tiOf Tryz.t30 Tryz.t30.desc Tryz.t30.size) := by kernel_rfl
theorem ty31 : mkTI Tryz.prog 31 = some (tiOf Tryz.t31 Tryz.t31.desc Tryz.t31.size) := by kernel_rfl
theorem ty32 : mkTI Tryz.prog 32 = some (tiOf Tryz.t32 Tryz.t32.desc Tryz.t32.size) := by kernel_rfl
theorem ty33 : mkTI Tryz.prog 33 = some (tiOf Tryz.t33 Tryz.t9.desc Tryz.t33.size) := by kernel_rfl
theorem ty35 : mkTI Tryz.prog 35 = some (tiOf Tryz.t35 Tryz.t35.desc Tryz.t35.size) := by kernel_rfl
theorem ty36 : mkTI Tryz.prog 36 = some (tiOf Tryz.t36 Tryz.t36.desc Tryz.t36.size) := by kernel_rfl
theorem ty37 : mkTI Tryz.prog 37 = some (tiOf Tryz.t37 Tryz.t36.desc Tryz.t37.size) := by kernel_rfl
theorem ty39 : mkTI Tryz.prog 39 = some (tiOf Tryz.t39 Tryz.t39.desc Tryz.t39.size) := by kernel_rfl
theorem ty40 : mkTI Tryz.prog 40 = some (tiOf Tryz.t40 Tryz.t40.desc Tryz.t40.size) := by kernel_rfl
theorem ty41 : mkTI Tryz.prog 41 = some (tiOf Tryz.t41 Tryz.t41.desc Tryz.t41.size) := by kernel_rfl
theorem ty42 : mkTI Tryz.prog 42 = some (tiOf Tryz.t42 Tryz.t42.desc Tryz.t42.size) := by kernel_rfl
theorem ty44 : mkTI Tryz.prog 44 = some (tiOf Tryz.t44 Tryz.t44.desc Tryz.t44.size) := by kernel_rfl
theorem ty45 : mkTI Tryz.prog 45 = some (tiOf Tryz.t45 Tryz.t45.desc Tryz.t45.size) := by kernel_rfl
theorem ty46 : mkTI Tryz.prog 46 = some (tiOf Tryz.t46 Tryz.t46.desc Tryz.t46.size) := by kernel_rfl
theorem ty47 : mkTI Tryz.prog 47 = some (tiOf Tryz.t47 Tryz.t46.desc Tryz.t47.size) := by kernel_rfl
theorem ty49 : mkTI Tryz.prog 49 = some (tiOf Tryz.t49 Tryz.t49.desc Tryz.t49.size) := by kernel_rfl
theorem ty50 : mkTI Tryz.prog 50 = some (tiOf Tryz.t50 Tryz.t50.desc Tryz.t50.size) := by kernel_rfl
theorem ty51 : mkTI Tryz.prog 51 = some (tiOf Tryz.t51 Tryz.t51.desc Tryz.t51.size) := by kernel_rfl
theorem ty52 : mkTI Tryz.prog 52 = some (tiOf Tryz.t52 Tryz.t52.desc Tryz.t52.size) := by kernel_rfl
theorem ty53 : mkTI Tryz.prog 53 = some (tiOf Tryz.t53 Tryz.t53.desc Tryz.t53.size) := by kernel_rfl
theorem ty54 : mkTI Tryz.prog 54 = some (tiOf Tryz.t54 Tryz.t54.desc Tryz.t54.size) := by kernel_rfl
theorem ty55 : mkTI Tryz.prog 55 = some (tiOf Tryz.t55 Tryz.t55.desc Tryz.t55.size) := by kernel_rfl
theorem ty56 : mkTI Tryz.prog 56 = some (tiOf Tryz.t56 Tryz.t56.desc Tryz.t56.size) := by kernel_rfl
theorem ty57 : mkTI Tryz.prog 57 = some (tiOf Tryz.t57 Tryz.t56.desc Tryz.t57.size) := by kernel_rfl
theorem ty58 : mkTI Tryz.prog 58 = some (tiOf Tryz.t58 Tryz.t58.desc Tryz.t58.size) := by kernel_rfl
theorem ty59 : mkTI Tryz.prog 59 = some (tiOf Tryz.t59 Tryz.t59.desc Tryz.t59.size) := by kernel_rfl
theorem ty60 : mkTI Tryz.prog 60 = some (tiOf Tryz.t60 Tryz.t60.desc Tryz.t60.size) := by kernel_rfl
theorem ty61 : mkTI Tryz.prog 61 = some (tiOf Tryz.t61 Tryz.t61.desc Tryz.t61.size) := by kernel_rfl
theorem ty62 : mkTI Tryz.prog 62 = some (tiOf Tryz.t62 Tryz.t62.desc Tryz.t62.size) := by kernel_rfl
theorem ty63 : mkTI Tryz.prog 63 = some (tiOf Tryz.t63 Tryz.t62.desc Tryz.t63.size) := by kernel_rfl
theorem ty64 : mkTI Tryz.prog 64 = some (tiOf Tryz.t64 Tryz.t64.desc Tryz.t64.size) := by kernel_rfl
theorem ty65 : mkTI Tryz.prog 65 = some (tiOf Tryz.t65 Tryz.t65.desc Tryz.t65.size) := by kernel_rfl
theorem ty66 : mkTI Tryz.prog 66 = some (tiOf Tryz.t66 Tryz.t66.desc Tryz.t66.size) := by kernel_rfl
theorem ty67 : mkTI Tryz.prog 67 = some (tiOf Tryz.t67 Tryz.t66.desc Tryz.t67.size) := by kernel_rfl
theorem ty68 : mkTI Tryz.prog 68 = some (tiOf Tryz.t68 Tryz.t68.desc Tryz.t68.size) := by kernel_rfl
theorem ty69 : mkTI Tryz.prog 69 = some (tiOf Tryz.t69 Tryz.t68.desc Tryz.t69.size) := by kernel_rfl
theorem ty71 : mkTI Tryz.prog 71 = some (tiOf Tryz.t71 Tryz.t71.desc Tryz.t71.size) := by kernel_rfl
theorem ty72 : mkTI Tryz.prog 72 = some (tiOf Tryz.t72 Tryz.t72.desc Tryz.t72.size) := by kernel_rfl
theorem ty73 : mkTI Tryz.prog 73 = some (tiOf Tryz.t73 Tryz.t73.desc Tryz.t73.size) := by kernel_rfl
theorem ty74 : mkTI Tryz.prog 74 = some (tiOf Tryz.t74 Tryz.t74.desc Tryz.t74.size) := by kernel_rfl
theorem ty75 : mkTI Tryz.prog 75 = some (tiOf Tryz.t75 Tryz.t75.desc Tryz.t75.size) := by kernel_rfl
theorem ty76 : mkTI Tryz.prog 76 = some (tiOf Tryz.t76 Tryz.t76.desc Tryz.t76.size) := by kernel_rfl
theorem ty77 : mkTI Tryz.prog 77 = some (tiOf Tryz.t77 Tryz.t77.desc Tryz.t77.size) := by kernel_rfl
theorem ty78 : mkTI Tryz.prog 78 = some (tiOf Tryz.t78 Tryz.t78.desc Tryz.t78.size) := by kernel_rfl
theorem ty79 : mkTI Tryz.prog 79 = some (tiOf Tryz.t79 Tryz.t79.desc Tryz.t79.size) := by kernel_rfl
theorem ty80 : mkTI Tryz.prog 80 = some (tiOf Tryz.t80 Tryz.t80.desc Tryz.t80.size) := by kernel_rfl
theorem ty81 : mkTI Tryz.prog 81 = some (tiOf Tryz.t81 Tryz.t81.desc Tryz.t81.size) := by kernel_rfl
theorem ty82 : mkTI Tryz.prog 82 = some (tiOf Tryz.t82 Tryz.t81.desc Tryz.t82.size) := by kernel_rfl
theorem ty83 : mkTI Tryz.prog 83 = some (tiOf Tryz.t83 Tryz.t83.desc Tryz.t83.size) := by kernel_rfl
theorem ty84 : mkTI Tryz.prog 84 = some (tiOf Tryz.t84 Tryz.t84.desc Tryz.t84.size) := by kernel_rfl
theorem ty85 : mkTI Tryz.prog 85 = some (tiOf Tryz.t85 Tryz.t85.desc Tryz.t85.size) := by kernel_rfl
theorem ty86 : mkTI Tryz.prog 86 = some (tiOf Tryz.t86 Tryz.t86.desc Tryz.t86.size) := by kernel_rfl
theorem ty87 : mkTI Tryz.prog 87 = some (tiOf Tryz.t87 Tryz.t87.desc Tryz.t87.size) := by kernel_rfl
theorem ty88 : mkTI Tryz.prog 88 = some (tiOf Tryz.t88 Tryz.t88.desc Tryz.t88.size) := by kernel_rfl
theorem ty89 : mkTI Tryz.prog 89 = some (tiOf Tryz.t89 Tryz.t89.desc Tryz.t89.size) := by kernel_rfl
theorem ty90 : mkTI Tryz.prog 90 = some (tiOf Tryz.t90 Tryz.t90.desc Tryz.t90.size) := by kernel_rfl
theorem ty91 : mkTI Tryz.prog 91 = some (tiOf Tryz.t91 Tryz.t91.desc Tryz.t91.size) := by kernel_rfl
theorem ty92 : mkTI Tryz.prog 92 = some (tiOf Tryz.t92 Tryz.t92.desc Tryz.t92.size) := by kernel_rfl
theorem ty93 : mkTI Tryz.prog 93 = some (tiOf Tryz.t93 Tryz.t93.desc Tryz.t93.size) := by kernel_rfl
theorem ty95 : mkTI Tryz.prog 95 = some (tiOf Tryz.t95 Tryz.t95.desc Tryz.t95.size) := by kernel_rfl
theorem ty96 : mkTI Tryz.prog 96 = some (tiOf Tryz.t96 Tryz.t96.desc Tryz.t96.size) := by kernel_rfl
theorem ty97 : mkTI Tryz.prog 97 = some (tiOf Tryz.t97 Tryz.t97.desc Tryz.t97.size) := by kernel_rfl
theorem ty98 : mkTI Tryz.prog 98 = some (tiOf Tryz.t98 Tryz.t97.desc Tryz.t98.size) := by kernel_rfl
theorem ty99 : mkTI Tryz.prog 99 = some (tiOf Tryz.t99 Tryz.t99.desc Tryz.t99.size) := by kernel_rfl
theorem ty100 : mkTI Tryz.prog 100 = some (tiOf Tryz.t100 Tryz.t100.desc Tryz.t100.size) := by kernel_rfl
theorem ty101 : mkTI Tryz.prog 101 = some (tiOf Tryz.t101 Tryz.t100.desc Tryz.t101.size) := by kernel_rfl
theorem ty102 : mkTI Tryz.prog 102 = some (tiOf Tryz.t102 Tryz.t102.desc Tryz.t102.size) := by kernel_rfl
theorem ty103 : mkTI Tryz.prog 103 = some (tiOf Tryz.t103 Tryz.t103.desc Tryz.t103.size) := by kernel_rfl
theorem ty105 : mkTI Tryz.prog 105 = some (tiOf Tryz.t105 Tryz.t105.desc Tryz.t105.size) := by kernel_rfl
theorem ty106 : mkTI Tryz.prog 106 = some (tiOf Tryz.t106 Tryz.t106.desc Tryz.t106.size) := by kernel_rfl
theorem ty107 : mkTI Tryz.prog 107 = some (tiOf Tryz.t107 Tryz.t106.desc Tryz.t107.size) := by kernel_rfl
theorem ty108 : mkTI Tryz.prog 108 = some (tiOf Tryz.t108 Tryz.t108.desc Tryz.t108.size) := by kernel_rfl
theorem ty109 : mkTI Tryz.prog 109 = some (tiOf Tryz.t109 Tryz.t109.desc Tryz.t109.size) := by kernel_rfl
theorem ty110 : mkTI Tryz.prog 110 = some (tiOf Tryz.t110 Tryz.t110.desc Tryz.t110.size) := by kernel_rfl
theorem ty111 : mkTI Tryz.prog 111 = some (tiOf Tryz.t111 Tryz.t111.desc Tryz.t111.size) := by kernel_rfl
theorem ty112 : mkTI Tryz.prog 112 = some (tiOf Tryz.t112 Tryz.t111.desc Tryz.t112.size) := by kernel_rfl
theorem ty113 : mkTI Tryz.prog 113 = some (tiOf Tryz.t113 Tryz.t113.desc Tryz.t113.size) := by kernel_rfl
theorem ty115 : mkTI Tryz.prog 115 = some (tiOf Tryz.t115 Tryz.t115.desc Tryz.t115.size) := by kernel_rfl
theorem ty116 : mkTI Tryz.prog 116 = some (tiOf Tryz.t116 Tryz.t116.desc Tryz.t116.size) := by kernel_rfl
theorem ty117 : mkTI Tryz.prog 117 = some (tiOf Tryz.t117 Tryz.t117.desc Tryz.t117.size) := by kernel_rfl
theorem ty118 : mkTI Tryz.prog 118 = some (tiOf Tryz.t118 Tryz.t118.desc Tryz.t118.size) := by kernel_rfl
theorem ty120 : mkTI Tryz.prog 120 = some (tiOf Tryz.t120 Tryz.t120.desc Tryz.t120.size) := by kernel_rfl
theorem ty121 : mkTI Tryz.prog 121 = some (tiOf Tryz.t121 Tryz.t121.desc Tryz.t121.size) := by kernel_rfl
theorem ty122 : mkTI Tryz.prog 122 = some (tiOf Tryz.t122 Tryz.t122.desc Tryz.t122.size) := by kernel_rfl
theorem ty123 : mkTI Tryz.prog 123 = some (tiOf Tryz.t123 Tryz.t122.desc Tryz.t123.size) := by kernel_rfl
theorem ty125 : mkTI Tryz.prog 125 = some (tiOf Tryz.t125 Tryz.t125.desc Tryz.t125.size) := by kernel_rfl
theorem ty126 : mkTI Tryz.prog 126 = some (tiOf Tryz.t126 Tryz.t126.desc Tryz.t126.size) := by kernel_rfl
theorem ty127 : mkTI Tryz.prog 127 = some (tiOf Tryz.t127 Tryz.t126.desc Tryz.t127.size) := by kernel_rfl
theorem ty128 : mkTI Tryz.prog 128 = some (tiOf Tryz.t128 Tryz.t128.desc Tryz.t128.size) := by kernel_rfl
theorem ty129 : mkTI Tryz.prog 129 = some (tiOf Tryz.t129 Tryz.t129.desc Tryz.t129.size) := by kernel_rfl
theorem ty130 : mkTI Tryz.prog 130 = some (tiOf Tryz.t130 Tryz.t130.desc Tryz.t130.size) := by kernel_rfl
theorem ty131 : mkTI Tryz.prog 131 = some (tiOf Tryz.t131 Tryz.t130.desc Tryz.t131.size) := by kernel_rfl
theorem ty132 : mkTI Tryz.prog 132 = some (tiOf Tryz.t132 Tryz.t132.desc Tryz.t132.size) := by kernel_rfl
theorem ty133 : mkTI Tryz.prog 133 = some (tiOf Tryz.t133 Tryz.t133.desc Tryz.t133.size) := by kernel_rfl
theorem ty134 : mkTI Tryz.prog 134 = some (tiOf Tryz.t134 Tryz.t134.desc Tryz.t134.size) := by kernel_rfl
theorem ty135 : mkTI Tryz.prog 135 = some (tiOf Tryz.t135 Tryz.t135.desc Tryz.t135.size) := by kernel_rfl
theorem ty136 : mkTI Tryz.prog 136 = some (tiOf Tryz.t136 Tryz.t136.desc Tryz.t136.size) := by kernel_rfl
theorem ty137 : mkTI Tryz.prog 137 = some (tiOf Tryz.t137 Tryz.t137.desc Tryz.t137.size) := by kernel_rfl
theorem ty138 : mkTI Tryz.prog 138 = some (tiOf Tryz.t138 Tryz.t138.desc Tryz.t138.size) := by kernel_rfl
theorem ty139 : mkTI Tryz.prog 139 = some (tiOf Tryz.t139 Tryz.t139.desc Tryz.t139.size) := by kernel_rfl
theorem ty140 : mkTI Tryz.prog 140 = some (tiOf Tryz.t140 Tryz.t139.desc Tryz.t140.size) := by kernel_rfl
theorem ty141 : mkTI Tryz.prog 141 = some (tiOf Tryz.t141 Tryz.t141.desc Tryz.t141.size) := by kernel_rfl
theorem ty142 : mkTI Tryz.prog 142 = some (tiOf Tryz.t142 Tryz.t142.desc Tryz.t142.size) := by kernel_rfl
theorem ty143 : mkTI Tryz.prog 143 = some (tiOf Tryz.t143 Tryz.t143.desc Tryz.t143.size) := by kernel_rfl
theorem ty144 : mkTI Tryz.prog 144 = some (tiOf Tryz.t144 Tryz.t144.desc Tryz.t144.size) := by kernel_rfl
theorem ty145 : mkTI Tryz.prog 145 = some (tiOf Tryz.t145 Tryz.t145.desc Tryz.t145.size) := by kernel_rfl
theorem ty146 : mkTI Tryz.prog 146 = some (tiOf Tryz.t146 Tryz.t146.desc Tryz.t146.size) := by kernel_rfl
theorem ty147 : mkTI Tryz.prog 147 = some (tiOf Tryz.t147 Tryz.t147.desc Tryz.t147.size) := by kernel_rfl
theorem ty149 : mkTI Tryz.prog 149 = some (tiOf Tryz.t149 Tryz.t149.desc Tryz.t149.size) := by kernel_rfl
theorem ty150 : mkTI Tryz.prog 150 = some (tiOf Tryz.t150 Tryz.t150.desc Tryz.t150.size) := by kernel_rfl
theorem ty151 : mkTI Tryz.prog 151 = some (tiOf Tryz.t151 Tryz.t151.desc Tryz.t151.size) := by kernel_rfl
theorem ty153 : mkTI Tryz.prog 153 = some (tiOf Tryz.t153 Tryz.t153.desc Tryz.t153.size) := by kernel_rfl
theorem ty154 : mkTI Tryz.prog 154 = some (tiOf Tryz.t154 Tryz.t154.desc Tryz.t154.size) := by kernel_rfl
theorem ty156 : mkTI Tryz.prog 156 = some (tiOf Tryz.t156 Tryz.t156.desc Tryz.t156.size) := by kernel_rfl
theorem ty158 : mkTI Tryz.prog 158 = some (tiOf Tryz.t158 Tryz.t158.desc Tryz.t158.size) := by kernel_rfl
theorem ty159 : mkTI Tryz.prog 159 = some (tiOf Tryz.t159 Tryz.t159.desc Tryz.t159.size) := by kernel_rfl
theorem ty161 : mkTI Tryz.prog 161 = some (tiOf Tryz.t161 Tryz.t161.desc Tryz.t161.size) := by kernel_rfl
theorem ty162 : mkTI Tryz.prog 162 = some (tiOf Tryz.t162 Tryz.t162.desc Tryz.t162.size) := by kernel_rfl
theorem ty163 : mkTI Tryz.prog 163 = some (tiOf Tryz.t163 Tryz.t163.desc Tryz.t163.size) := by kernel_rfl
theorem ty164 : mkTI Tryz.prog 164 = some (tiOf Tryz.t164 Tryz.t164.desc Tryz.t164.size) := by kernel_rfl
theorem ty166 : mkTI Tryz.prog 166 = some (tiOf Tryz.t166 Tryz.t166.desc Tryz.t166.size) := by kernel_rfl
theorem ty167 : mkTI Tryz.prog 167 = some (tiOf Tryz.t167 Tryz.t167.desc Tryz.t167.size) := by kernel_rfl
theorem ty168 : mkTI Tryz.prog 168 = some (tiOf Tryz.t168 Tryz.t168.desc Tryz.t168.size) := by kernel_rfl
theorem ty169 : mkTI Tryz.prog 169 = some (tiOf Tryz.t169 Tryz.t168.desc Tryz.t169.size) := by kernel_rfl
theorem ty170 : mkTI Tryz.prog 170 = some (tiOf Tryz.t170 Tryz.t170.desc Tryz.t170.size) := by kernel_rfl
theorem ty171 : mkTI Tryz.prog 171 = some (tiOf Tryz.t171 Tryz.t171.desc Tryz.t171.size) := by kernel_rfl
theorem ty172 : mkTI Tryz.prog 172 = some (tiOf Tryz.t172 Tryz.t172.desc Tryz.t172.size) := by kernel_rfl
theorem ty173 : mkTI Tryz.prog 173 = some (tiOf Tryz.t173 Tryz.t3.desc Tryz.t173.size) := by kernel_rfl
theorem ty175 : mkTI Tryz.prog 175 = some (tiOf Tryz.t175 Tryz.t175.desc Tryz.t175.size) := by kernel_rfl
theorem ty176 : mkTI Tryz.prog 176 = some (tiOf Tryz.t176 Tryz.t176.desc Tryz.t176.size) := by kernel_rfl
theorem ty177 : mkTI Tryz.prog 177 = some (tiOf Tryz.t177 Tryz.t177.desc Tryz.t177.size) := by kernel_rfl
theorem ty178 : mkTI Tryz.prog 178 = some (tiOf Tryz.t178 Tryz.t178.desc Tryz.t178.size) := by kernel_rfl
theorem ty180 : mkTI Tryz.prog 180 = some (tiOf Tryz.t180 Tryz.t180.desc Tryz.t180.size) := by kernel_rfl
theorem ty181 : mkTI Tryz.prog 181 = some (tiOf Tryz.t181 Tryz.t181.desc Tryz.t181.size) := by kernel_rfl
theorem ty182 : mkTI Tryz.prog 182 = some (tiOf Tryz.t182 Tryz.t182.desc Tryz.t182.size) := by kernel_rfl
theorem ty183 : mkTI Tryz.prog 183 = some (tiOf Tryz.t183 Tryz.t183.desc Tryz.t183.size) := by kernel_rfl
theorem ty184 : mkTI Tryz.prog 184 = some (tiOf Tryz.t184 Tryz.t184.desc Tryz.t184.size) := by kernel_rfl
theorem ty185 : mkTI Tryz.prog 185 = some (tiOf Tryz.t185 Tryz.t185.desc Tryz.t185.size) := by kernel_rfl
theorem ty186 : mkTI Tryz.prog 186 = some (tiOf Tryz.t186 Tryz.t186.desc Tryz.t186.size) := by kernel_rfl
theorem ty187 : mkTI Tryz.prog 187 = some (tiOf Tryz.t187 Tryz.t187.desc Tryz.t187.size) := by kernel_rfl
theorem ty188 : mkTI Tryz.prog 188 = some (tiOf Tryz.t188 Tryz.t188.desc Tryz.t188.size) := by kernel_rfl
theorem ty189 : mkTI Tryz.prog 189 = some (tiOf Tryz.t189 Tryz.t189.desc Tryz.t189.size) := by kernel_rfl
theorem ty191 : mkTI Tryz.prog 191 = some (tiOf Tryz.t191 Tryz.t191.desc Tryz.t191.size) := by kernel_rfl
theorem ty192 : mkTI Tryz.prog 192 = some (tiOf Tryz.t192 Tryz.t192.desc Tryz.t192.size) := by kernel_rfl
theorem ty193 : mkTI Tryz.prog 193 = some (tiOf Tryz.t193 Tryz.t193.desc Tryz.t193.size) := by kernel_rfl
theorem ty194 : mkTI Tryz.prog 194 = some (tiOf Tryz.t194 Tryz.t194.desc Tryz.t194.size) := by kernel_rfl
theorem ty195 : mkTI Tryz.prog 195 = some (tiOf Tryz.t195 Tryz.t195.desc Tryz.t195.size) := by kernel_rfl
theorem ty196 : mkTI Tryz.prog 196 = some (tiOf Tryz.t196 Tryz.t196.desc Tryz.t196.size) := by kernel_rfl
theorem ty197 : mkTI Tryz.prog 197 = some (tiOf Tryz.t197 Tryz.t196.desc Tryz.t197.size) := by kernel_rfl
theorem ty198 : mkTI Tryz.prog 198 = some (tiOf Tryz.t198 Tryz.t198.desc Tryz.t198.size) := by kernel_rfl
theorem ty199 : mkTI Tryz.prog 199 = some (tiOf Tryz.t199 Tryz.t198.desc Tryz.t199.size) := by kernel_rfl
theorem ty201 : mkTI Tryz.prog 201 = some (tiOf Tryz.t201 Tryz.t201.desc Tryz.t201.size) := by kernel_rfl
theorem ty202 : mkTI Tryz.prog 202 = some (tiOf Tryz.t202 Tryz.t202.desc Tryz.t202.size) := by kernel_rfl
theorem ty203 : mkTI Tryz.prog 203 = some (tiOf Tryz.t203 Tryz.t203.desc Tryz.t203.size) := by kernel_rfl
theorem ty204 : mkTI Tryz.prog 204 = some (tiOf Tryz.t204 Tryz.t204.desc Tryz.t204.size) := by kernel_rfl
theorem ty205 : mkTI Tryz.prog 205 = some (tiOf Tryz.t205 Tryz.t205.desc Tryz.t205.size) := by kernel_rfl
theorem ty206 : mkTI Tryz.prog 206 = some (tiOf Tryz.t206 Tryz.t206.desc Tryz.t206.size) := by kernel_rfl
theorem ty207 : mkTI Tryz.prog 207 = some (tiOf Tryz.t207 Tryz.t206.desc Tryz.t207.size) := by kernel_rfl
theorem ty208 : mkTI Tryz.prog 208 = some (tiOf Tryz.t208 Tryz.t208.desc Tryz.t208.size) := by kernel_rfl
theorem ty210 : mkTI Tryz.prog 210 = some (tiOf Tryz.t210 Tryz.t210.desc Tryz.t210.size) := by kernel_rfl
theorem ty211 : mkTI Tryz.prog 211 = some (tiOf Tryz.t211 Tryz.t211.desc Tryz.t211.size) := by kernel_rfl
theorem ty212 : mkTI Tryz.prog 212 = some (tiOf Tryz.t212 Tryz.t212.desc Tryz.t212.size) := by kernel_rfl
theorem ty213 : mkTI Tryz.prog 213 = some (tiOf Tryz.t213 Tryz.t213.desc Tryz.t213.size) := by kernel_rfl
theorem ty214 : mkTI Tryz.prog 214 = some (tiOf Tryz.t214 Tryz.t214.desc Tryz.t214.size) := by kernel_rfl
theorem ty215 : mkTI Tryz.prog 215 = some (tiOf Tryz.t215 Tryz.t215.desc Tryz.t215.size) := by kernel_rfl
theorem ty216 : mkTI Tryz.prog 216 = some (tiOf Tryz.t216 Tryz.t215.desc Tryz.t216.size) := by kernel_rfl
theorem ty217 : mkTI Tryz.prog 217 = some (tiOf Tryz.t217 Tryz.t217.desc Tryz.t217.size) := by kernel_rfl
theorem ty218 : mkTI Tryz.prog 218 = some (tiOf Tryz.t218 Tryz.t218.desc Tryz.t218.size) := by kernel_rfl
theorem ty219 : mkTI Tryz.prog 219 = some (tiOf Tryz.t219 Tryz.t219.desc Tryz.t219.size) := by kernel_rfl
theorem ty220 : mkTI Tryz.prog 220 = some (tiOf Tryz.t220 Tryz.t220.desc Tryz.t220.size) := by kernel_rfl
theorem ty221 : mkTI Tryz.prog 221 = some (tiOf Tryz.t221 Tryz.t221.desc Tryz.t221.size) := by kernel_rfl
theorem ty222 : mkTI Tryz.prog 222 = some (tiOf Tryz.t222 Tryz.t222.desc Tryz.t222.size) := by kernel_rfl
theorem ty223 : mkTI Tryz.prog 223 = some (tiOf Tryz.t223 Tryz.t164.desc Tryz.t223.size) := by kernel_rfl
theorem ty224 : mkTI Tryz.prog 224 = some (tiOf Tryz.t224 Tryz.t224.desc Tryz.t224.size) := by kernel_rfl
theorem ty225 : mkTI Tryz.prog 225 = some (tiOf Tryz.t225 Tryz.t225.desc Tryz.t225.size) := by kernel_rfl
theorem ty226 : mkTI Tryz.prog 226 = some (tiOf Tryz.t226 Tryz.t226.desc Tryz.t226.size) := by kernel_rfl
theorem ty227 : mkTI Tryz.prog 227 = some (tiOf Tryz.t227 Tryz.t227.desc Tryz.t227.size) := by kernel_rfl
theorem ty228 : mkTI Tryz.prog 228 = some (tiOf Tryz.t228 Tryz.t228.desc Tryz.t228.size) := by kernel_rfl
theorem ty229 : mkTI Tryz.prog 229 = some (tiOf Tryz.t229 Tryz.t229.desc Tryz.t229.size) := by kernel_rfl
theorem ty230 : mkTI Tryz.prog 230 = some (tiOf Tryz.t230 Tryz.t230.desc Tryz.t230.size) := by kernel_rfl
theorem ty231 : mkTI Tryz.prog 231 = some (tiOf Tryz.t231 Tryz.t231.desc Tryz.t231.size) := by kernel_rfl
theorem ty232 : mkTI Tryz.prog 232 = some (tiOf Tryz.t232 Tryz.t232.desc Tryz.t232.size) := by kernel_rfl
theorem ty233 : mkTI Tryz.prog 233 = some (tiOf Tryz.t233 Tryz.t233.desc Tryz.t233.size) := by kernel_rfl
theorem ty234 : mkTI Tryz.prog 234 = some (tiOf Tryz.t234 Tryz.t234.desc Tryz.t234.size) := by kernel_rfl
theorem ty236 : mkTI Tryz.prog 236 = some (tiOf Tryz.t236 Tryz.t236.desc Tryz.t236.size) := by kernel_rfl
theorem ty238 : mkTI Tryz.prog 238 = some (tiOf Tryz.t238 Tryz.t238.desc Tryz.t238.size) := by kernel_rfl
theorem ty239 : mkTI Tryz.prog 239 = some (tiOf Tryz.t239 Tryz.t239.desc Tryz.t239.size) := by kernel_rfl
theorem ty240 : mkTI Tryz.prog 240 = some (tiOf Tryz.t240 Tryz.t240.desc Tryz.t240.size) := by kernel_rfl
theorem ty241 : mkTI Tryz.prog 241 = some (tiOf Tryz.t241 Tryz.t241.desc Tryz.t241.size) := by kernel_rfl
theorem ty242 : mkTI Tryz.prog 242 = some (tiOf Tryz.t242 Tryz.t242.desc Tryz.t242.size) := by kernel_rfl
theorem ty243 : mkTI Tryz.prog 243 = some (tiOf Tryz.t243 Tryz.t243.desc Tryz.t243.size) := by kernel_rfl
theorem ty244 : mkTI Tryz.prog 244 = some (tiOf Tryz.t244 Tryz.t244.desc Tryz.t244.size) := by kernel_rfl
theorem ty245 : mkTI Tryz.prog 245 = some (tiOf Tryz.t245 Tryz.t245.desc Tryz.t245.size) := by kernel_rfl
theorem ty246 : mkTI Tryz.prog 246 = some (tiOf Tryz.t246 Tryz.t246.desc Tryz.t246.size) := by kernel_rfl
theorem ty247 : mkTI Tryz.prog 247 = some (tiOf Tryz.t247 Tryz.t247.desc Tryz.t247.size) := by kernel_rfl
theorem ty248 : mkTI Tryz.prog 248 = some (tiOf Tryz.t248 Tryz.t248.desc Tryz.t248.size) := by kernel_rfl
theorem ty249 : mkTI Tryz.prog 249 = some (tiOf Tryz.t249 Tryz.t249.desc Tryz.t249.size) := by kernel_rfl
theorem ty250 : mkTI Tryz.prog 250 = some (tiOf Tryz.t250 Tryz.t250.desc Tryz.t250.size) := by kernel_rfl
theorem ty251 : mkTI Tryz.prog 251 = some (tiOf Tryz.t251 Tryz.t251.desc Tryz.t251.size) := by kernel_rfl
theorem ty252 : mkTI Tryz.prog 252 = some (tiOf Tryz.t252 Tryz.t252.desc Tryz.t252.size) := by kernel_rfl
theorem ty254 : mkTI Tryz.prog 254 = some (tiOf Tryz.t254 Tryz.t254.desc Tryz.t254.size) := by kernel_rfl
theorem ty255 : mkTI Tryz.prog 255 = some (tiOf Tryz.t255 Tryz.t255.desc Tryz.t255.size) := by kernel_rfl
theorem ty256 : mkTI Tryz.prog 256 = some (tiOf Tryz.t256 Tryz.t256.desc Tryz.t256.size) := by kernel_rfl
theorem ty257 : mkTI Tryz.prog 257 = some (tiOf Tryz.t257 Tryz.t257.desc Tryz.t257.size) := by kernel_rfl
theorem ty258 : mkTI Tryz.prog 258 = some (tiOf Tryz.t258 Tryz.t258.desc Tryz.t258.size) := by kernel_rfl
theorem ty259 : mkTI Tryz.prog 259 = some (tiOf Tryz.t259 Tryz.t259.desc Tryz.t5.size) := by kernel_rfl
theorem ty260 : mkTI Tryz.prog 260 = some (tiOf Tryz.t260 Tryz.t260.desc Tryz.t260.size) := by kernel_rfl
theorem ty262 : mkTI Tryz.prog 262 = some (tiOf Tryz.t262 Tryz.t262.desc Tryz.t262.size) := by kernel_rfl
theorem ty264 : mkTI Tryz.prog 264 = some (tiOf Tryz.t264 Tryz.t264.desc Tryz.t264.size) := by kernel_rfl
theorem ty265 : mkTI Tryz.prog 265 = some (tiOf Tryz.t265 Tryz.t265.desc Tryz.t265.size) := by kernel_rfl
theorem ty266 : mkTI Tryz.prog 266 = some (tiOf Tryz.t266 Tryz.t266.desc Tryz.t266.size) := by kernel_rfl
theorem ty267 : mkTI Tryz.prog 267 = some (tiOf Tryz.t267 Tryz.t267.desc Tryz.t267.size) := by kernel_rfl
theorem ty268 : mkTI Tryz.prog 268 = some (tiOf Tryz.t268 Tryz.t268.desc Tryz.t268.size) := by kernel_rfl
theorem ty269 : mkTI Tryz.prog 269 = some (tiOf Tryz.t269 Tryz.t269.desc Tryz.t269.size) := by kernel_rfl
theorem ty270 : mkTI Tryz.prog 270 = some (tiOf Tryz.t270 Tryz.t270.desc Tryz.t270.size) := by kernel_rfl
theorem ty271 : mkTI Tryz.prog 271 = some (tiOf Tryz.t271 Tryz.t271.desc Tryz.t271.size) := by kernel_rfl
theorem ty272 : mkTI Tryz.prog 272 = some (tiOf Tryz.t272 Tryz.t272.desc Tryz.t272.size) := by kernel_rfl
theorem ty273 : mkTI Tryz.prog 273 = some (tiOf Tryz.t273 Tryz.t273.desc Tryz.t273.size) := by kernel_rfl
theorem ty274 : mkTI Tryz.prog 274 = some (tiOf Tryz.t274 Tryz.t274.desc Tryz.t274.size) := by kernel_rfl
theorem ty275 : mkTI Tryz.prog 275 = some (tiOf Tryz.t275 Tryz.t275.desc Tryz.t275.size) := by kernel_rfl
theorem ty276 : mkTI Tryz.prog 276 = some (tiOf Tryz.t276 Tryz.t276.desc Tryz.t276.size) := by kernel_rfl
theorem ty277 : mkTI Tryz.prog 277 = some (tiOf Tryz.t277 Tryz.t277.desc Tryz.t164.size) := by kernel_rfl
theorem ty278 : mkTI Tryz.prog 278 = some (tiOf Tryz.t278 Tryz.t278.desc Tryz.t5.size) := by kernel_rfl
theorem ty279 : mkTI Tryz.prog 279 = some (tiOf Tryz.t279 Tryz.t279.desc Tryz.t279.size) := by kernel_rfl
theorem ty280 : mkTI Tryz.prog 280 = some (tiOf Tryz.t280 Tryz.t280.desc Tryz.t280.size) := by kernel_rfl
theorem ty281 : mkTI Tryz.prog 281 = some (tiOf Tryz.t281 Tryz.t281.desc Tryz.t281.size) := by kernel_rfl
theorem ty282 : mkTI Tryz.prog 282 = some (tiOf Tryz.t282 Tryz.t282.desc Tryz.t282.size) := by kernel_rfl
theorem ty283 : mkTI Tryz.prog 283 = some (tiOf Tryz.t283 Tryz.t283.desc Tryz.t283.size) := by kernel_rfl
theorem ty284 : mkTI Tryz.prog 284 = some (tiOf Tryz.t284 Tryz.t284.desc Tryz.t284.size) := by kernel_rfl
theorem ty285 : mkTI Tryz.prog 285 = some (tiOf Tryz.t285 Tryz.t285.desc Tryz.t5.size) := by kernel_rfl
theorem ty286 : mkTI Tryz.prog 286 = some (tiOf Tryz.t286 Tryz.t286.desc Tryz.t5.size) := by kernel_rfl
theorem ty287 : mkTI Tryz.prog 287 = some (tiOf Tryz.t287 Tryz.t287.desc Tryz.t287.size) := by kernel_rfl
theorem ty288 : mkTI Tryz.prog 288 = some (tiOf Tryz.t288 Tryz.t288.desc Tryz.t288.size) := by kernel_rfl
theorem ty289 : mkTI Tryz.prog 289 = some (tiOf Tryz.t289 Tryz.t288.desc Tryz.t289.size) := by kernel_rfl
theorem ty290 : mkTI Tryz.prog 290 = some (tiOf Tryz.t290 Tryz.t290.desc Tryz.t16.size) := by kernel_rfl
theorem ty291 : mkTI Tryz.prog 291 = some (tiOf Tryz.t291 Tryz.t291.desc Tryz.t291.size) := by kernel_rfl
theorem ty292 : mkTI Tryz.prog 292 = some (tiOf Tryz.t292 Tryz.t291.desc Tryz.t292.size) := by kernel_rfl
theorem ty293 : mkTI Tryz.prog 293 = some (tiOf Tryz.t293 Tryz.t5.desc Tryz.t293.size) := by kernel_rfl
theorem ty294 : mkTI Tryz.prog 294 = some (tiOf Tryz.t294 Tryz.t5.desc Tryz.t294.size) := by kernel_rfl
theorem ty295 : mkTI Tryz.prog 295 = some (tiOf Tryz.t295 Tryz.t295.desc Tryz.t295.size) := by kernel_rfl
theorem ty296 : mkTI Tryz.prog 296 = some (tiOf Tryz.t296 Tryz.t21.desc Tryz.t296.size) := by kernel_rfl
theorem ty297 : mkTI Tryz.prog 297 = some (tiOf Tryz.t297 Tryz.t21.desc Tryz.t297.size) := by kernel_rfl
theorem ty298 : mkTI Tryz.prog 298 = some (tiOf Tryz.t298 Tryz.t298.desc Tryz.t298.size) := by kernel_rfl
theorem ty299 : mkTI Tryz.prog 299 = some (tiOf Tryz.t299 Tryz.t298.desc Tryz.t299.size) := by kernel_rfl
theorem ty300 : mkTI Tryz.prog 300 = some (tiOf Tryz.t300 Tryz.t300.desc Tryz.t300.size) := by kernel_rfl
theorem ty301 : mkTI Tryz.prog 301 = some (tiOf Tryz.t301 Tryz.t301.desc Tryz.t301.size) := by kernel_rfl
theorem ty302 : mkTI Tryz.prog 302 = some (tiOf Tryz.t302 Tryz.t301.desc Tryz.t302.size) := by kernel_rfl
noncomputable def tys : List (Nat × TI) := [(1, tiOf Tryz.t1 Tryz.t1.desc Tryz.t1.size), (2, tiOf Tryz.t2 Tryz.t2.desc Tryz.t2.size), (3, tiOf Tryz.t3 Tryz.t3.desc Tryz.t3.size), (4, tiOf Tryz.t4 Tryz.t4.desc Tryz.t4.size), (5, tiOf Tryz.t5 Tryz.t5.desc Tryz.t5.size), (6, tiOf Tryz.t6 Tryz.t5.desc Tryz.t6.size), (7, tiOf Tryz.t7 Tryz.t7.desc Tryz.t7.size), (8, tiOf Tryz.t8 Tryz.t7.desc Tryz.t8.size), (9, tiOf Tryz.t9 Tryz.t9.desc Tryz.t9.size), (10, tiOf Tryz.t10 Tryz.t9.desc Tryz.t10.size), (11, tiOf Tryz.t11 Tryz.t9.desc Tryz.t11.size), (12, tiOf Tryz.t12 Tryz.t12.desc Tryz.t12.size), (13, tiOf Tryz.t13 Tryz.t13.desc Tryz.t13.size), (14, tiOf Tryz.t14 Tryz.t13.desc Tryz.t14.size), (15, tiOf Tryz.t15 Tryz.t15.desc Tryz.t15.size), (16, tiOf Tryz.t16 Tryz.t16.desc Tryz.t16.size), (17, tiOf Tryz.t17 Tryz.t17.desc Tryz.t17.size), (18, tiOf Tryz.t18 Tryz.t18.desc Tryz.t18.size), (19, tiOf Tryz.t19 Tryz.t18.desc Tryz.t19.size), (20, tiOf Tryz.t20 Tryz.t20.desc Tryz.t20.size), (21, tiOf Tryz.t21 Tryz.t21.desc Tryz.t21.size), (22, tiOf Tryz.t22 Tryz.t22.desc Tryz.t22.size), (23, tiOf Tryz.t23 Tryz.t23.desc Tryz.t23.size), (24, tiOf Tryz.t24 Tryz.t24.desc Tryz.t24.size), (25, tiOf Tryz.t25 Tryz.t25.desc Tryz.t25.size), (26, tiOf Tryz.t26 Tryz.t3.desc Tryz.t26.size), (27, tiOf Tryz.t27 Tryz.t27.desc Tryz.t27.size), (28, tiOf Tryz.t28 Tryz.t28.desc Tryz.t28.size), (29, tiOf Tryz.t29 Tryz.t29.desc Tryz.t29.size), (30, tiOf Tryz.t30 Tryz.t30.desc Tryz.t30.size), (31, tiOf Tryz.t31 Tryz.t31.desc Tryz.t31.size), (32, tiOf Tryz.t32 Tryz.t32.desc Tryz.t32.size), (33, tiOf Tryz.t33 Tryz.t9.desc Tryz.t33.size), (35, tiOf Tryz.t35 Tryz.t35.desc Tryz.t35.size), (36, tiOf Tryz.t36 Tryz.t36.desc Tryz.t36.size), (37, tiOf Tryz.t37 Tryz.t36.desc Tryz.t37.size), (39, tiOf Tryz.t39 Tryz.t39.desc Tryz.t39.size), (40, tiOf Tryz.t40 Tryz.t40.desc Tryz.t40.size), (41, tiOf Tryz.t41 Tryz.t41.desc Tryz.t41.size), (42, tiOf Tryz.t42 Tryz.t42.desc Tryz.t42.size), (44, tiOf Tryz.t44 Tryz.t44.desc Tryz.t44.size), (45, tiOf Tryz.t45 Tryz.t45.desc Tryz.t45.size), (46, tiOf Tryz.t46 Tryz.t46.desc Tryz.t46.size), (47, tiOf Tryz.t47 Tryz.t46.desc Tryz.t47.size), (49, tiOf Tryz.t49 Tryz.t49.desc Tryz.t49.size), (50, tiOf Tryz.t50 Tryz.t50.desc Tryz.t50.size), (51, tiOf Tryz.t51 Tryz.t51.desc Tryz.t51.size), (52, tiOf Tryz.t52 Tryz.t52.desc Tryz.t52.size), (53, tiOf Tryz.t53 Tryz.t53.desc Tryz.t53.size), (54, tiOf Tryz.t54 Tryz.t54.desc Tryz.t54.size), (55, tiOf Tryz.t55 Tryz.t55.desc Tryz.t55.size), (56, tiOf Tryz.t56 Tryz.t56.desc Tryz.t56.size), (57, tiOf Tryz.t57 Tryz.t56.desc Tryz.t57.size), (58, tiOf Tryz.t58 Tryz.t58.desc Tryz.t58.size), (59, tiOf Tryz.t59 Tryz.t59.desc Tryz.t59.size), (60, tiOf Tryz.t60 Tryz.t60.desc Tryz.t60.size), (61, tiOf Tryz.t61 Tryz.t61.desc Tryz.t61.size), (62, tiOf Tryz.t62 Tryz.t62.desc Tryz.t62.size), (63, tiOf Tryz.t63 Tryz.t62.desc Tryz.t63.size), (64, tiOf Tryz.t64 Tryz.t64.desc Tryz.t64.size), (65, tiOf Tryz.t65 Tryz.t65.desc Tryz.t65.size), (66, tiOf Tryz.t66 Tryz.t66.desc Tryz.t66.size), (67, tiOf Tryz.t67 Tryz.t66.desc Tryz.t67.size), (68, tiOf Tryz.t68 Tryz.t68.desc Tryz.t68.size), (69, tiOf Tryz.t69 Tryz.t68.desc Tryz.t69.size), (71, tiOf Tryz.t71 Tryz.t71.desc Tryz.t71.size), (72, tiOf Tryz.t72 Tryz.t72.desc Tryz.t72.size), (73, tiOf Tryz.t73 Tryz.t73.desc Tryz.t73.size), (74, tiOf Tryz.t74 Tryz.t74.desc Tryz.t74.size), (75, tiOf Tryz.t75 Tryz.t75.desc Tryz.t75.size), (76, tiOf Tryz.t76 Tryz.t76.desc Tryz.t76.size), (77, tiOf Tryz.t77 Tryz.t77.desc Tryz.t77.size), (78, tiOf Tryz.t78 Tryz.t78.desc Tryz.t78.size), (79, tiOf Tryz.t79 Tryz.t79.desc Tryz.t79.size), (80, tiOf Tryz.t80 Tryz.t80.desc Tryz.t80.size), (81, tiOf Tryz.t81 Tryz.t81.desc Tryz.t81.size), (82, tiOf Tryz.t82 Tryz.t81.desc Tryz.t82.size), (83, tiOf Tryz.t83 Tryz.t83.desc Tryz.t83.size), (84, tiOf Tryz.t84 Tryz.t84.desc Tryz.t84.size), (85, tiOf Tryz.t85 Tryz.t85.desc Tryz.t85.size), (86, tiOf Tryz.t86 Tryz.t86.desc Tryz.t86.size), (87, tiOf Tryz.t87 Tryz.t87.desc Tryz.t87.size), (88, tiOf Tryz.t88 Tryz.t88.desc Tryz.t88.size), (89, tiOf Tryz.t89 Tryz.t89.desc Tryz.t89.size), (90, tiOf Tryz.t90 Tryz.t90.desc Tryz.t90.size), (91, tiOf Tryz.t91 Tryz.t91.desc Tryz.t91.size), (92, tiOf Tryz.t92 Tryz.t92.desc Tryz.t92.size), (93, tiOf Tryz.t93 Tryz.t93.desc Tryz.t93.size), (95, tiOf Tryz.t95 Tryz.t95.desc Tryz.t95.size), (96, tiOf Tryz.t96 Tryz.t96.desc Tryz.t96.size), (97, tiOf Tryz.t97 Tryz.t97.desc Tryz.t97.size), (98, tiOf Tryz.t98 Tryz.t97.desc Tryz.t98.size), (99, tiOf Tryz.t99 Tryz.t99.desc Tryz.t99.size), (100, tiOf Tryz.t100 Tryz.t100.desc Tryz.t100.size), (101, tiOf Tryz.t101 Tryz.t100.desc Tryz.t101.size), (102, tiOf Tryz.t102 Tryz.t102.desc Tryz.t102.size), (103, tiOf Tryz.t103 Tryz.t103.desc Tryz.t103.size), (105, tiOf Tryz.t105 Tryz.t105.desc Tryz.t105.size), (106, tiOf Tryz.t106 Tryz.t106.desc Tryz.t106.size), (107, tiOf Tryz.t107 Tryz.t106.desc Tryz.t107.size), (108, tiOf Tryz.t108 Tryz.t108.desc Tryz.t108.size), (109, tiOf Tryz.t109 Tryz.t109.desc Tryz.t109.size), (110, tiOf Tryz.t110 Tryz.t110.desc Tryz.t110.size), (111, tiOf Tryz.t111 Tryz.t111.desc Tryz.t111.size), (112, tiOf Tryz.t112 Tryz.t111.desc Tryz.t112.size), (113, tiOf Tryz.t113 Tryz.t113.desc Tryz.t113.size), (115, tiOf Tryz.t115 Tryz.t115.desc Tryz.t115.size), (116, tiOf Tryz.t116 Tryz.t116.desc Tryz.t116.size), (117, tiOf Tryz.t117 Tryz.t117.desc Tryz.t117.size), (118, tiOf Tryz.t118 Tryz.t118.desc Tryz.t118.size), (120, tiOf Tryz.t120 Tryz.t120.desc Tryz.t120.size), (121, tiOf Tryz.t121 Tryz.t121.desc Tryz.t121.size), (122, tiOf Tryz.t122 Tryz.t122.desc Tryz.t122.size), (123, tiOf Tryz.t123 Tryz.t122.desc Tryz.t123.size), (125, tiOf Tryz.t125 Tryz.t125.desc Tryz.t125.size), (126, tiOf Tryz.t126 Tryz.t126.desc Tryz.t126.size), (127, tiOf Tryz.t127 Tryz.t126.desc Tryz.t127.size), (128, tiOf Tryz.t128 Tryz.t128.desc Tryz.t128.size), (129, tiOf Tryz.t129 Tryz.t129.desc Tryz.t129.size), (130, tiOf Tryz.t130 Tryz.t130.desc Tryz.t130.size), (131, tiOf Tryz.t131 Tryz.t130.desc Tryz.t131.size), (132, tiOf Tryz.t132 Tryz.t132.desc Tryz.t132.size), (133, tiOf Tryz.t133 Tryz.t133.desc Tryz.t133.size), (134, tiOf Tryz.t134 Tryz.t134.desc Tryz.t134.size), (135, tiOf Tryz.t135 Tryz.t135.desc Tryz.t135.size), (136, tiOf Tryz.t136 Tryz.t136.desc Tryz.t136.size), (137, tiOf Tryz.t137 Tryz.t137.desc Tryz.t137.size), (138, tiOf Tryz.t138 Tryz.t138.desc Tryz.t138.size), (139, tiOf Tryz.t139 Tryz.t139.desc Tryz.t139.size), (140, tiOf Tryz.t140 Tryz.t139.desc Tryz.t140.size), (141, tiOf Tryz.t141 Tryz.t141.desc Tryz.t141.size), (142, tiOf Tryz.t142 Tryz.t142.desc Tryz.t142.size), (143, tiOf Tryz.t143 Tryz.t143.desc Tryz.t143.size), (144, tiOf Tryz.t144 Tryz.t144.desc Tryz.t144.size), (145, tiOf Tryz.t145 Tryz.t145.desc Tryz.t145.size), (146, tiOf Tryz.t146 Tryz.t146.desc Tryz.t146.size), (147, tiOf Tryz.t147 Tryz.t147.desc Tryz.t147.size), (149, tiOf Tryz.t149 Tryz.t149.desc Tryz.t149.size), (150, tiOf Tryz.t150 Tryz.t150.desc Tryz.t150.size), (151, tiOf Tryz.t151 Tryz.t151.desc Tryz.t151.size), (153, tiOf Tryz.t153 Tryz.t153.desc Tryz.t153.size), (154, tiOf Tryz.t154 Tryz.t154.desc Tryz.t154.size), (156, tiOf Tryz.t156 Tryz.t156.desc Tryz.t156.size), (158, tiOf Tryz.t158 Tryz.t158.desc Tryz.t158.size), (159, tiOf Tryz.t159 Tryz.t159.desc Tryz.t159.size), (161, tiOf Tryz.t161 Tryz.t161.desc Tryz.t161.size), (162, tiOf Tryz.t162 Tryz.t162.desc Tryz.t162.size), (163, tiOf Tryz.t163 Tryz.t163.desc Tryz.t163.size), (164, tiOf Tryz.t164 Tryz.t164.desc Tryz.t164.size), (166, tiOf Tryz.t166 Tryz.t166.desc Tryz.t166.size), (167, tiOf Tryz.t167 Tryz.t167.desc Tryz.t167.size), (168, tiOf Tryz.t168 Tryz.t168.desc Tryz.t168.size), (169, tiOf Tryz.t169 Tryz.t168.desc Tryz.t169.size), (170, tiOf Tryz.t170 Tryz.t170.desc Tryz.t170.size), (171, tiOf Tryz.t171 Tryz.t171.desc Tryz.t171.size), (172, tiOf Tryz.t172 Tryz.t172.desc Tryz.t172.size), (173, tiOf Tryz.t173 Tryz.t3.desc Tryz.t173.size), (175, tiOf Tryz.t175 Tryz.t175.desc Tryz.t175.size), (176, tiOf Tryz.t176 Tryz.t176.desc Tryz.t176.size), (177, tiOf Tryz.t177 Tryz.t177.desc Tryz.t177.size), (178, tiOf Tryz.t178 Tryz.t178.desc Tryz.t178.size), (180, tiOf Tryz.t180 Tryz.t180.desc Tryz.t180.size), (181, tiOf Tryz.t181 Tryz.t181.desc Tryz.t181.size), (182, tiOf Tryz.t182 Tryz.t182.desc Tryz.t182.size), (183, tiOf Tryz.t183 Tryz.t183.desc Tryz.t183.size), (184, tiOf Tryz.t184 Tryz.t184.desc Tryz.t184.size), (185, tiOf Tryz.t185 Tryz.t185.desc Tryz.t185.size), (186, tiOf Tryz.t186 Tryz.t186.desc Tryz.t186.size), (187, tiOf Tryz.t187 Tryz.t187.desc Tryz.t187.size), (188, tiOf Tryz.t188 Tryz.t188.desc Tryz.t188.size), (189, tiOf Tryz.t189 Tryz.t189.desc Tryz.t189.size), (191, tiOf Tryz.t191 Tryz.t191.desc Tryz.t191.size), (192, tiOf Tryz.t192 Tryz.t192.desc Tryz.t192.size), (193, tiOf Tryz.t193 Tryz.t193.desc Tryz.t193.size), (194, tiOf Tryz.t194 Tryz.t194.desc Tryz.t194.size), (195, tiOf Tryz.t195 Tryz.t195.desc Tryz.t195.size), (196, tiOf Tryz.t196 Tryz.t196.desc Tryz.t196.size), (197, tiOf Tryz.t197 Tryz.t196.desc Tryz.t197.size), (198, tiOf Tryz.t198 Tryz.t198.desc Tryz.t198.size), (199, tiOf Tryz.t199 Tryz.t198.desc Tryz.t199.size), (201, tiOf Tryz.t201 Tryz.t201.desc Tryz.t201.size), (202, tiOf Tryz.t202 Tryz.t202.desc Tryz.t202.size), (203, tiOf Tryz.t203 Tryz.t203.desc Tryz.t203.size), (204, tiOf Tryz.t204 Tryz.t204.desc Tryz.t204.size), (205, tiOf Tryz.t205 Tryz.t205.desc Tryz.t205.size), (206, tiOf Tryz.t206 Tryz.t206.desc Tryz.t206.size), (207, tiOf Tryz.t207 Tryz.t206.desc Tryz.t207.size), (208, tiOf Tryz.t208 Tryz.t208.desc Tryz.t208.size), (210, tiOf Tryz.t210 Tryz.t210.desc Tryz.t210.size), (211, tiOf Tryz.t211 Tryz.t211.desc Tryz.t211.size), (212, tiOf Tryz.t212 Tryz.t212.desc Tryz.t212.size), (213, tiOf Tryz.t213 Tryz.t213.desc Tryz.t213.size), (214, tiOf Tryz.t214 Tryz.t214.desc Tryz.t214.size), (215, tiOf Tryz.t215 Tryz.t215.desc Tryz.t215.size), (216, tiOf Tryz.t216 Tryz.t215.desc Tryz.t216.size), (217, tiOf Tryz.t217 Tryz.t217.desc Tryz.t217.size), (218, tiOf Tryz.t218 Tryz.t218.desc Tryz.t218.size), (219, tiOf Tryz.t219 Tryz.t219.desc Tryz.t219.size), (220, tiOf Tryz.t220 Tryz.t220.desc Tryz.t220.size), (221, tiOf Tryz.t221 Tryz.t221.desc Tryz.t221.size), (222, tiOf Tryz.t222 Tryz.t222.desc Tryz.t222.size), (223, tiOf Tryz.t223 Tryz.t164.desc Tryz.t223.size), (224, tiOf Tryz.t224 Tryz.t224.desc Tryz.t224.size), (225, tiOf Tryz.t225 Tryz.t225.desc Tryz.t225.size), (226, tiOf Tryz.t226 Tryz.t226.desc Tryz.t226.size), (227, tiOf Tryz.t227 Tryz.t227.desc Tryz.t227.size), (228, tiOf Tryz.t228 Tryz.t228.desc Tryz.t228.size), (229, tiOf Tryz.t229 Tryz.t229.desc Tryz.t229.size), (230, tiOf Tryz.t230 Tryz.t230.desc Tryz.t230.size), (231, tiOf Tryz.t231 Tryz.t231.desc Tryz.t231.size), (232, tiOf Tryz.t232 Tryz.t232.desc Tryz.t232.size), (233, tiOf Tryz.t233 Tryz.t233.desc Tryz.t233.size), (234, tiOf Tryz.t234 Tryz.t234.desc Tryz.t234.size), (236, tiOf Tryz.t236 Tryz.t236.desc Tryz.t236.size), (238, tiOf Tryz.t238 Tryz.t238.desc Tryz.t238.size), (239, tiOf Tryz.t239 Tryz.t239.desc Tryz.t239.size), (240, tiOf Tryz.t240 Tryz.t240.desc Tryz.t240.size), (241, tiOf Tryz.t241 Tryz.t241.desc Tryz.t241.size), (242, tiOf Tryz.t242 Tryz.t242.desc Tryz.t242.size), (243, tiOf Tryz.t243 Tryz.t243.desc Tryz.t243.size), (244, tiOf Tryz.t244 Tryz.t244.desc Tryz.t244.size), (245, tiOf Tryz.t245 Tryz.t245.desc Tryz.t245.size), (246, tiOf Tryz.t246 Tryz.t246.desc Tryz.t246.size), (247, tiOf Tryz.t247 Tryz.t247.desc Tryz.t247.size), (248, tiOf Tryz.t248 Tryz.t248.desc Tryz.t248.size), (249, tiOf Tryz.t249 Tryz.t249.desc Tryz.t249.size), (250, tiOf Tryz.t250 Tryz.t250.desc Tryz.t250.size), (251, tiOf Tryz.t251 Tryz.t251.desc Tryz.t251.size), (252, tiOf Tryz.t252 Tryz.t252.desc Tryz.t252.size), (254, tiOf Tryz.t254 Tryz.t254.desc Tryz.t254.size), (255, tiOf Tryz.t255 Tryz.t255.desc Tryz.t255.size), (256, tiOf Tryz.t256 Tryz.t256.desc Tryz.t256.size), (257, tiOf Tryz.t257 Tryz.t257.desc Tryz.t257.size), (258, tiOf Tryz.t258 Tryz.t258.desc Tryz.t258.size), (259, tiOf Tryz.t259 Tryz.t259.desc Tryz.t5.size), (260, tiOf Tryz.t260 Tryz.t260.desc Tryz.t260.size), (262, tiOf Tryz.t262 Tryz.t262.desc Tryz.t262.size), (264, tiOf Tryz.t264 Tryz.t264.desc Tryz.t264.size), (265, tiOf Tryz.t265 Tryz.t265.desc Tryz.t265.size), (266, tiOf Tryz.t266 Tryz.t266.desc Tryz.t266.size), (267, tiOf Tryz.t267 Tryz.t267.desc Tryz.t267.size), (268, tiOf Tryz.t268 Tryz.t268.desc Tryz.t268.size), (269, tiOf Tryz.t269 Tryz.t269.desc Tryz.t269.size), (270, tiOf Tryz.t270 Tryz.t270.desc Tryz.t270.size), (271, tiOf Tryz.t271 Tryz.t271.desc Tryz.t271.size), (272, tiOf Tryz.t272 Tryz.t272.desc Tryz.t272.size), (273, tiOf Tryz.t273 Tryz.t273.desc Tryz.t273.size), (274, tiOf Tryz.t274 Tryz.t274.desc Tryz.t274.size), (275, tiOf Tryz.t275 Tryz.t275.desc Tryz.t275.size), (276, tiOf Tryz.t276 Tryz.t276.desc Tryz.t276.size), (277, tiOf Tryz.t277 Tryz.t277.desc Tryz.t164.size), (278, tiOf Tryz.t278 Tryz.t278.desc Tryz.t5.size), (279, tiOf Tryz.t279 Tryz.t279.desc Tryz.t279.size), (280, tiOf Tryz.t280 Tryz.t280.desc Tryz.t280.size), (281, tiOf Tryz.t281 Tryz.t281.desc Tryz.t281.size), (282, tiOf Tryz.t282 Tryz.t282.desc Tryz.t282.size), (283, tiOf Tryz.t283 Tryz.t283.desc Tryz.t283.size), (284, tiOf Tryz.t284 Tryz.t284.desc Tryz.t284.size), (285, tiOf Tryz.t285 Tryz.t285.desc Tryz.t5.size), (286, tiOf Tryz.t286 Tryz.t286.desc Tryz.t5.size), (287, tiOf Tryz.t287 Tryz.t287.desc Tryz.t287.size), (288, tiOf Tryz.t288 Tryz.t288.desc Tryz.t288.size), (289, tiOf Tryz.t289 Tryz.t288.desc Tryz.t289.size), (290, tiOf Tryz.t290 Tryz.t290.desc Tryz.t16.size), (291, tiOf Tryz.t291 Tryz.t291.desc Tryz.t291.size), (292, tiOf Tryz.t292 Tryz.t291.desc Tryz.t292.size), (293, tiOf Tryz.t293 Tryz.t5.desc Tryz.t293.size), (294, tiOf Tryz.t294 Tryz.t5.desc Tryz.t294.size), (295, tiOf Tryz.t295 Tryz.t295.desc Tryz.t295.size), (296, tiOf Tryz.t296 Tryz.t21.desc Tryz.t296.size), (297, tiOf Tryz.t297 Tryz.t21.desc Tryz.t297.size), (298, tiOf Tryz.t298 Tryz.t298.desc Tryz.t298.size), (299, tiOf Tryz.t299 Tryz.t298.desc Tryz.t299.size), (300, tiOf Tryz.t300 Tryz.t300.desc Tryz.t300.size), (301, tiOf Tryz.t301 Tryz.t301.desc Tryz.t301.size), (302, tiOf Tryz.t302 Tryz.t301.desc Tryz.t302.size)]
noncomputable def fns : List (Nat × Func) := [(2, Tryz.f2), (3, Tryz.f3), (4, Tryz.f4), (5, Tryz.f5), (6, Tryz.f6), (7, Tryz.f7), (8, Tryz.f8), (9, Tryz.f9), (10, Tryz.f10), (11, Tryz.f11), (12, Tryz.f12), (13, Tryz.f13), (14, Tryz.f14), (15, Tryz.f15), (16, Tryz.f16), (17, Tryz.f17), (18, Tryz.f18), (19, Tryz.f19), (20, Tryz.f20), (21, Tryz.f21), (22, Tryz.f22), (23, Tryz.f23), (24, Tryz.f24), (25, Tryz.f25), (26, Tryz.f26), (27, Tryz.f27), (28, Tryz.f28), (29, Tryz.f29), (30, Tryz.f30), (31, Tryz.f31), (32, Tryz.f32), (33, Tryz.f33), (34, Tryz.f34), (35, Tryz.f35), (36, Tryz.f36), (37, Tryz.f37), (38, Tryz.f38), (39, Tryz.f39), (40, Tryz.f40), (41, Tryz.f41), (42, Tryz.f42), (43, Tryz.f43), (44, Tryz.f44), (45, Tryz.f45), (46, Tryz.f46), (47, Tryz.f47), (48, Tryz.f48), (49, Tryz.f49), (50, Tryz.f50), (51, Tryz.f51), (52, Tryz.f52), (53, Tryz.f53), (54, Tryz.f54), (55, Tryz.f55), (56, Tryz.f56), (57, Tryz.f57), (58, Tryz.f58), (59, Tryz.f59), (60, Tryz.f60), (61, Tryz.f61), (62, Tryz.f62), (63, Tryz.f63), (64, Tryz.f64), (65, Tryz.f65), (66, Tryz.f66), (67, Tryz.f67), (68, Tryz.f68), (69, Tryz.f69), (70, Tryz.f70), (71, Tryz.f71), (72, Tryz.f72), (73, Tryz.f73), (74, Tryz.f74), (75, Tryz.f75), (76, Tryz.f76), (77, Tryz.f77), (78, Tryz.f78), (79, Tryz.f79), (80, Tryz.f80), (81, Tryz.f81), (82, Tryz.f82), (83, Tryz.f83), (84, Tryz.f84), (85, Tryz.f85), (86, Tryz.f86), (87, Tryz.f87), (88, Tryz.f88), (89, Tryz.f89), (90, Tryz.f90), (91, Tryz.f91), (92, Tryz.f92), (93, Tryz.f93), (94, Tryz.f94), (95, Tryz.f95), (96, Tryz.f96), (97, Tryz.f97), (98, Tryz.f98), (99, Tryz.f99), (100, Tryz.f100), (101, Tryz.f101), (102, Tryz.f102), (103, Tryz.f103), (104, Tryz.f104), (105, Tryz.f105), (106, Tryz.f106), (107, Tryz.f107), (108, Tryz.f108), (109, Tryz.f109), (110, Tryz.f110), (111, Tryz.f111), (112, Tryz.f112), (113, Tryz.f113), (114, Tryz.f114), (115, Tryz.f115), (116, Tryz.f116), (117, Tryz.f117), (118, Tryz.f118), (119, Tryz.f119), (120, Tryz.f120), (121, Tryz.f121), (122, Tryz.f122), (123, Tryz.f123), (124, Tryz.f124), (125, Tryz.f125), (126, Tryz.f126), (127, Tryz.f127), (128, Tryz.f128), (129, Tryz.f129), (130, Tryz.f130), (131, Tryz.f131), (132, Tryz.f132), (133, Tryz.f133), (134, Tryz.f134), (135, Tryz.f135), (136, Tryz.f136), (137, Tryz.f137), (138, Tryz.f138), (139, Tryz.f139), (140, Tryz.f140), (141, Tryz.f141), (142, Tryz.f142), (143, Tryz.f143), (144, Tryz.f144), (145, Tryz.f145), (146, Tryz.f146), (147, Tryz.f147), (148, Tryz.f148), (149, Tryz.f149), (150, Tryz.f150), (151, Tryz.f151), (152, Tryz.f152), (153, Tryz.f153), (154, Tryz.f154), (155, Tryz.f155), (156, Tryz.f156), (157, Tryz.f157), (158, Tryz.f158), (159, Tryz.f159), (160, Tryz.f160), (161, Tryz.f161), (162, Tryz.f162), (163, Tryz.f163), (164, Tryz.f164), (165, Tryz.f165), (166, Tryz.f166), (167, Tryz.f167), (168, Tryz.f168), (169, Tryz.f169), (170, Tryz.f170), (171, Tryz.f171), (172, Tryz.f172), (173, Tryz.f173), (174, Tryz.f174), (175, Tryz.f175), (176, Tryz.f176), (177, Tryz.f177), (178, Tryz.f178), (179, Tryz.f179), (180, Tryz.f180), (181, Tryz.f181), (182, Tryz.f182), (183, Tryz.f183), (184, Tryz.f184), (185, Tryz.f185), (186, Tryz.f186), (187, Tryz.f187), (189, Tryz.f189), (190, Tryz.f190), (191, Tryz.f191), (192, Tryz.f192), (193, Tryz.f193), (194, Tryz.f194), (195, Tryz.f195), (197, Tryz.f197), (198, Tryz.f198), (199, Tryz.f199), (200, Tryz.f200), (201, Tryz.f201), (202, Tryz.f202), (203, Tryz.f203), (204, Tryz.f204), (205, Tryz.f205), (206, Tryz.f206), (207, Tryz.f207), (208, Tryz.f208), (210, Tryz.f210), (211, Tryz.f211), (212, Tryz.f212), (213, Tryz.f213), (215, Tryz.f215), (216, Tryz.f216), (217, Tryz.f217), (218, Tryz.f218), (219, Tryz.f219), (220, Tryz.f220), (221, Tryz.f221), (222, Tryz.f222), (223, Tryz.f223), (224, Tryz.f224), (225, Tryz.f225), (226, Tryz.f226), (227, Tryz.f227), (228, Tryz.f228), (229, Tryz.f229), (230, Tryz.f230), (231, Tryz.f231), (232, Tryz.f232), (234, Tryz.f234), (236, Tryz.f236), (237, Tryz.f237), (238, Tryz.f238), (239, Tryz.f239), (240, Tryz.f240), (241, Tryz.f241), (242, Tryz.f242), (267, Tryz.f267)]
set_option maxRecDepth 100000 in
theorem tys_ok : AllTy Tryz.prog tys := ⟨ty1, ty2, ty3, ty4, ty5, ty6, ty7, ty8, ty9, ty10, ty11, ty12, ty13, ty14, ty15, ty16, ty17, ty18, ty19, ty20, ty21, ty22, ty23, ty24, ty25, ty26, ty27, ty28, ty29, ty30, ty31, ty32, ty33, ty35, ty36, ty37, ty39, ty40, ty41, ty42, ty44, ty45, ty46, ty47, ty49, ty50, ty51, ty52, ty53, ty54, ty55, ty56, ty57, ty58, ty59, ty60, ty61, ty62, ty63, ty64, ty65, ty66, ty67, ty68, ty69, ty71, ty72, ty73, ty74, ty75, ty76, ty77, ty78, ty79, ty80, ty81, ty82, ty83, ty84, ty85, ty86, ty87, ty88, ty89, ty90, ty91, ty92, ty93, ty95, ty96, ty97, ty98, ty99, ty100, ty101, ty102, ty103, ty105, ty106, ty107, ty108, ty109, ty110, ty111, ty112, ty113, ty115, ty116, ty117, ty118, ty120, ty121, ty122, ty123, ty125, ty126, ty127, ty128, ty129, ty130, ty131, ty132, ty133, ty134, ty135, ty136, ty137, ty138, ty139, ty140, ty141, ty142, ty143, ty144, ty145, ty146, ty147, ty149, ty150, ty151, ty153, ty154, ty156, ty158, ty159, ty161, ty162, ty163, ty164, ty166, ty167, ty168, ty169, ty170, ty171, ty172, ty173, ty175, ty176, ty177, ty178, ty180, ty181, ty182, ty183, ty184, ty185, ty186, ty187, ty188, ty189, ty191, ty192, ty193, ty194, ty195, ty196, ty197, ty198, ty199, ty201, ty202, ty203, ty204, ty205, ty206, ty207, ty208, ty210, ty211, ty212, ty213, ty214, ty215, ty216, ty217, ty218, ty219, ty220, ty221, ty222, ty223, ty224, ty225, ty226, ty227, ty228, ty229, ty230, ty231, ty232, ty233, ty234, ty236, ty238, ty239, ty240, ty241, ty242, ty243, ty244, ty245, ty246, ty247, ty248, ty249, ty250, ty251, ty252, ty254, ty255, ty256, ty257, ty258, ty259, ty260, ty262, ty264, ty265, ty266, ty267, ty268, ty269, ty270, ty271, ty272, ty273, ty274, ty275, ty276, ty277, ty278, ty279, ty280, ty281, ty282, ty283, ty284, ty285, ty286, ty287, ty288, ty289, ty290, ty291, ty292, ty293, ty294, ty295, ty296, ty297, ty298, ty299, ty300, ty301, ty302, trivial⟩
set_option maxRecDepth 100000 in
theorem fns_ok : AllFn Tryz.prog fns := ⟨⟨Tryz.func2, by kernel_rfl⟩, ⟨Tryz.func3, by kernel_rfl⟩, ⟨Tryz.func4, by kernel_rfl⟩, ⟨Tryz.func5, by kernel_rfl⟩, ⟨Tryz.func6, by kernel_rfl⟩, ⟨Tryz.func7, by kernel_rfl⟩, ⟨Tryz.func8, by kernel_rfl⟩, ⟨Tryz.func9, by kernel_rfl⟩, ⟨Tryz.func10, by kernel_rfl⟩, ⟨Tryz.func11, by kernel_rfl⟩, ⟨Tryz.func12, by kernel_rfl⟩, ⟨Tryz.func13, by kernel_rfl⟩, ⟨Tryz.func14, by kernel_rfl⟩, ⟨Tryz.func15, by kernel_rfl⟩, ⟨Tryz.func16, by kernel_rfl⟩, ⟨Tryz.func17, by kernel_rfl⟩, ⟨Tryz.func18, by kernel_rfl⟩, ⟨Tryz.func19, by kernel_rfl⟩, ⟨Tryz.func20, by kernel_rfl⟩, ⟨Tryz.func21, by kernel_rfl⟩, ⟨Tryz.func22, by kernel_rfl⟩, ⟨Tryz.func23, by kernel_rfl⟩, ⟨Tryz.func24, by kernel_rfl⟩, ⟨Tryz.func25, by kernel_rfl⟩, ⟨Tryz.func26, by kernel_rfl⟩, ⟨Tryz.func27, by kernel_rfl⟩, ⟨Tryz.func28, by kernel_rfl⟩, ⟨Tryz.func29, by kernel_rfl⟩, ⟨Tryz.func30, by kernel_rfl⟩, ⟨Tryz.func31, by kernel_rfl⟩, ⟨Tryz.func32, by kernel_rfl⟩, ⟨Tryz.func33, by kernel_rfl⟩, ⟨Tryz.func34, by kernel_rfl⟩, ⟨Tryz.func35, by kernel_rfl⟩, ⟨Tryz.func36, by kernel_rfl⟩, ⟨Tryz.func37, by kernel_rfl⟩, ⟨Tryz.func38, by kernel_rfl⟩, ⟨Tryz.func39, by kernel_rfl⟩, ⟨Tryz.func40, by kernel_rfl⟩, ⟨Tryz.func41, by kernel_rfl⟩, ⟨Tryz.func42, by kernel_rfl⟩, ⟨Tryz.func43, by kernel_rfl⟩, ⟨Tryz.func44, by kernel_rfl⟩, ⟨Tryz.func45, by kernel_rfl⟩, ⟨Tryz.func46, by kernel_rfl⟩, ⟨Tryz.func47, by kernel_rfl⟩, ⟨Tryz.func48, by kernel_rfl⟩, ⟨Tryz.func49, by kernel_rfl⟩, ⟨Tryz.func50, by kernel_rfl⟩, ⟨Tryz.func51, by kernel_rfl⟩, ⟨Tryz.func52, by kernel_rfl⟩, ⟨Tryz.func53, by kernel_rfl⟩, ⟨Tryz.func54, by kernel_rfl⟩, ⟨Tryz.func55, by kernel_rfl⟩, ⟨Tryz.func56, by kernel_rfl⟩, ⟨Tryz.func57, by kernel_rfl⟩, ⟨Tryz.func58, by kernel_rfl⟩, ⟨Tryz.func59, by kernel_rfl⟩, ⟨Tryz.func60, by kernel_rfl⟩, ⟨Tryz.func61, by kernel_rfl⟩, ⟨Tryz.func62, by kernel_rfl⟩, ⟨Tryz.func63, by kernel_rfl⟩, ⟨Tryz.func64, by kernel_rfl⟩, ⟨Tryz.func65, by kernel_rfl⟩, ⟨Tryz.func66, by kernel_rfl⟩, ⟨Tryz.func67, by kernel_rfl⟩, ⟨Tryz.func68, by kernel_rfl⟩, ⟨Tryz.func69, by kernel_rfl⟩, ⟨Tryz.func70, by kernel_rfl⟩, ⟨Tryz.func71, by kernel_rfl⟩, ⟨Tryz.func72, by kernel_rfl⟩, ⟨Tryz.func73, by kernel_rfl⟩, ⟨Tryz.func74, by kernel_rfl⟩, ⟨Tryz.func75, by kernel_rfl⟩, ⟨Tryz.func76, by kernel_rfl⟩, ⟨Tryz.func77, by kernel_rfl⟩, ⟨Tryz.func78, by kernel_rfl⟩, ⟨Tryz.func79, by kernel_rfl⟩, ⟨Tryz.func80, by kernel_rfl⟩, ⟨Tryz.func81, by kernel_rfl⟩, ⟨Tryz.func82, by kernel_rfl⟩, ⟨Tryz.func83, by kernel_rfl⟩, ⟨Tryz.func84, by kernel_rfl⟩, ⟨Tryz.func85, by kernel_rfl⟩, ⟨Tryz.func86, by kernel_rfl⟩, ⟨Tryz.func87, by kernel_rfl⟩, ⟨Tryz.func88, by kernel_rfl⟩, ⟨Tryz.func89, by kernel_rfl⟩, ⟨Tryz.func90, by kernel_rfl⟩, ⟨Tryz.func91, by kernel_rfl⟩, ⟨Tryz.func92, by kernel_rfl⟩, ⟨Tryz.func93, by kernel_rfl⟩, ⟨Tryz.func94, by kernel_rfl⟩, ⟨Tryz.func95, by kernel_rfl⟩, ⟨Tryz.func96, by kernel_rfl⟩, ⟨Tryz.func97, by kernel_rfl⟩, ⟨Tryz.func98, by kernel_rfl⟩, ⟨Tryz.func99, by kernel_rfl⟩, ⟨Tryz.func100, by kernel_rfl⟩, ⟨Tryz.func101, by kernel_rfl⟩, ⟨Tryz.func102, by kernel_rfl⟩, ⟨Tryz.func103, by kernel_rfl⟩, ⟨Tryz.func104, by kernel_rfl⟩, ⟨Tryz.func105, by kernel_rfl⟩, ⟨Tryz.func106, by kernel_rfl⟩, ⟨Tryz.func107, by kernel_rfl⟩, ⟨Tryz.func108, by kernel_rfl⟩, ⟨Tryz.func109, by kernel_rfl⟩, ⟨Tryz.func110, by kernel_rfl⟩, ⟨Tryz.func111, by kernel_rfl⟩, ⟨Tryz.func112, by kernel_rfl⟩, ⟨Tryz.func113, by kernel_rfl⟩, ⟨Tryz.func114, by kernel_rfl⟩, ⟨Tryz.func115, by kernel_rfl⟩, ⟨Tryz.func116, by kernel_rfl⟩, ⟨Tryz.func117, by kernel_rfl⟩, ⟨Tryz.func118, by kernel_rfl⟩, ⟨Tryz.func119, by kernel_rfl⟩, ⟨Tryz.func120, by kernel_rfl⟩, ⟨Tryz.func121, by kernel_rfl⟩, ⟨Tryz.func122, by kernel_rfl⟩, ⟨Tryz.func123, by kernel_rfl⟩, ⟨Tryz.func124, by kernel_rfl⟩, ⟨Tryz.func125, by kernel_rfl⟩, ⟨Tryz.func126, by kernel_rfl⟩, ⟨Tryz.func127, by kernel_rfl⟩, ⟨Tryz.func128, by kernel_rfl⟩, ⟨Tryz.func129, by kernel_rfl⟩, ⟨Tryz.func130, by kernel_rfl⟩, ⟨Tryz.func131, by kernel_rfl⟩, ⟨Tryz.func132, by kernel_rfl⟩, ⟨Tryz.func133, by kernel_rfl⟩, ⟨Tryz.func134, by kernel_rfl⟩, ⟨Tryz.func135, by kernel_rfl⟩, ⟨Tryz.func136, by kernel_rfl⟩, ⟨Tryz.func137, by kernel_rfl⟩, ⟨Tryz.func138, by kernel_rfl⟩, ⟨Tryz.func139, by kernel_rfl⟩, ⟨Tryz.func140, by kernel_rfl⟩, ⟨Tryz.func141, by kernel_rfl⟩, ⟨Tryz.func142, by kernel_rfl⟩, ⟨Tryz.func143, by kernel_rfl⟩, ⟨Tryz.func144, by kernel_rfl⟩, ⟨Tryz.func145, by kernel_rfl⟩, ⟨Tryz.func146, by kernel_rfl⟩, ⟨Tryz.func147, by kernel_rfl⟩, ⟨Tryz.func148, by kernel_rfl⟩, ⟨Tryz.func149, by kernel_rfl⟩, ⟨Tryz.func150, by kernel_rfl⟩, ⟨Tryz.func151, by kernel_rfl⟩, ⟨Tryz.func152, by kernel_rfl⟩, ⟨Tryz.func153, by kernel_rfl⟩, ⟨Tryz.func154, by kernel_rfl⟩, ⟨Tryz.func155, by kernel_rfl⟩, ⟨Tryz.func156, by kernel_rfl⟩, ⟨Tryz.func157, by kernel_rfl⟩, ⟨Tryz.func158, by kernel_rfl⟩, ⟨Tryz.func159, by kernel_rfl⟩, ⟨Tryz.func160, by kernel_rfl⟩, ⟨Tryz.func161, by kernel_rfl⟩, ⟨Tryz.func162, by kernel_rfl⟩, ⟨Tryz.func163, by kernel_rfl⟩, ⟨Tryz.func164, by kernel_rfl⟩, ⟨Tryz.func165, by kernel_rfl⟩, ⟨Tryz.func166, by kernel_rfl⟩, ⟨Tryz.func167, by kernel_rfl⟩, ⟨Tryz.func168, by kernel_rfl⟩, ⟨Tryz.func169, by kernel_rfl⟩, ⟨Tryz.func170, by kernel_rfl⟩, ⟨Tryz.func171, by kernel_rfl⟩, ⟨Tryz.func172, by kernel_rfl⟩, ⟨Tryz.func173, by kernel_rfl⟩, ⟨Tryz.func174, by kernel_rfl⟩, ⟨Tryz.func175, by kernel_rfl⟩, ⟨Tryz.func176, by kernel_rfl⟩, ⟨Tryz.func177, by kernel_rfl⟩, ⟨Tryz.func178, by kernel_rfl⟩, ⟨Tryz.func179, by kernel_rfl⟩, ⟨Tryz.func180, by kernel_rfl⟩, ⟨Tryz.func181, by kernel_rfl⟩, ⟨Tryz.func182, by kernel_rfl⟩, ⟨Tryz.func183, by kernel_rfl⟩, ⟨Tryz.func184, by kernel_rfl⟩, ⟨Tryz.func185, by kernel_rfl⟩, ⟨Tryz.func186, by kernel_rfl⟩, ⟨Tryz.func187, by kernel_rfl⟩, ⟨Tryz.func189, by kernel_rfl⟩, ⟨Tryz.func190, by kernel_rfl⟩, ⟨Tryz.func191, by kernel_rfl⟩, ⟨Tryz.func192, by kernel_rfl⟩, ⟨Tryz.func193, by kernel_rfl⟩, ⟨Tryz.func194, by kernel_rfl⟩, ⟨Tryz.func195, by kernel_rfl⟩, ⟨Tryz.func197, by kernel_rfl⟩, ⟨Tryz.func198, by kernel_rfl⟩, ⟨Tryz.func199, by kernel_rfl⟩, ⟨Tryz.func200, by kernel_rfl⟩, ⟨Tryz.func201, by kernel_rfl⟩, ⟨Tryz.func202, by kernel_rfl⟩, ⟨Tryz.func203, by kernel_rfl⟩, ⟨Tryz.func204, by kernel_rfl⟩, ⟨Tryz.func205, by kernel_rfl⟩, ⟨Tryz.func206, by kernel_rfl⟩, ⟨Tryz.func207, by kernel_rfl⟩, ⟨Tryz.func208, by kernel_rfl⟩, ⟨Tryz.func210, by kernel_rfl⟩, ⟨Tryz.func211, by kernel_rfl⟩, ⟨Tryz.func212, by kernel_rfl⟩, ⟨Tryz.func213, by kernel_rfl⟩, ⟨Tryz.func215, by kernel_rfl⟩, ⟨Tryz.func216, by kernel_rfl⟩, ⟨Tryz.func217, by kernel_rfl⟩, ⟨Tryz.func218, by kernel_rfl⟩, ⟨Tryz.func219, by kernel_rfl⟩, ⟨Tryz.func220, by kernel_rfl⟩, ⟨Tryz.func221, by kernel_rfl⟩, ⟨Tryz.func222, by kernel_rfl⟩, ⟨Tryz.func223, by kernel_rfl⟩, ⟨Tryz.func224, by kernel_rfl⟩, ⟨Tryz.func225, by kernel_rfl⟩, ⟨Tryz.func226, by kernel_rfl⟩, ⟨Tryz.func227, by kernel_rfl⟩, ⟨Tryz.func228, by kernel_rfl⟩, ⟨Tryz.func229, by kernel_rfl⟩, ⟨Tryz.func230, by kernel_rfl⟩, ⟨Tryz.func231, by kernel_rfl⟩, ⟨Tryz.func232, by kernel_rfl⟩, ⟨Tryz.func234, by kernel_rfl⟩, ⟨Tryz.func236, by kernel_rfl⟩, ⟨Tryz.func237, by kernel_rfl⟩, ⟨Tryz.func238, by kernel_rfl⟩, ⟨Tryz.func239, by kernel_rfl⟩, ⟨Tryz.func240, by kernel_rfl⟩, ⟨Tryz.func241, by kernel_rfl⟩, ⟨Tryz.func242, by kernel_rfl⟩, ⟨Tryz.func267, by kernel_rfl⟩, trivial⟩
def nds : List Nat := [81]
def ids : List Nat := [209]
def xs : List (Nat × (Array Value → Sem Value)) := [(188, xAdd64), (196, xSub64), (214, xIndex), (235, xIndexByte)]
theorem x188 : XOK Tryz.prog 188 xAdd64 := ⟨Tryz.f188, Tryz.func188, by kernel_rfl, by kernel_rfl, by kernel_rfl, by kernel_rfl⟩
theorem x196 : XOK Tryz.prog 196 xSub64 := ⟨Tryz.f196, Tryz.func196, by kernel_rfl, by kernel_rfl, by kernel_rfl, by kernel_rfl⟩
theorem x214 : XOK Tryz.prog 214 xIndex := ⟨Tryz.f214, Tryz.func214, by kernel_rfl, by kernel_rfl, by kernel_rfl, by kernel_rfl⟩
theorem x235 : XOK Tryz.prog 235 xIndexByte := ⟨Tryz.f235, Tryz.func235, by kernel_rfl, by kernel_rfl, by kernel_rfl, by kernel_rfl⟩
theorem x209 : XOK Tryz.prog 209 xSame := ⟨Tryz.f209, Tryz.func209, by kernel_rfl, by kernel_rfl, by kernel_rfl, by kernel_rfl⟩
theorem xs_ok : AllX Tryz.prog xs := ⟨x188, x196, x214, x235, trivial⟩
theorem ids_ok : AllI Tryz.prog ids := ⟨x209, trivial⟩
def mes : List (Nat × List (String × FuncId)) := []
theorem mes_ok : AllMe Tryz.prog mes := trivial
def nzs : List (Nat × TypeId) := [(233, 5)]
theorem nz233 : NzOK Tryz.prog 233 5 := ⟨Tryz.f233.params, Tryz.f233.resultTypes, 195, ⟨Tryz.f233, Tryz.func233, by kernel_rfl, by kernel_rfl, by kernel_rfl, by kernel_rfl⟩, by kernel_rfl, by kernel_rfl⟩
theorem nzs_ok : AllN Tryz.prog nzs := ⟨nz233, trivial⟩
noncomputable def env : Env := ⟨Tryz.prog, table tys, table fns, table (nds.map fun k => (k, ())), .e, table (ids.map fun k => (k, ())), table xs, table mes, table nzs⟩
theorem ok : EnvOK env := envOK (by kernel_rfl) (by kernel_rfl) (by kernel_rfl) (by kernel_rfl) (by kernel_rfl) mes_ok (by kernel_rfl) nzs_ok tys_ok fns_ok ids_ok xs_ok (by kernel_rfl)
end Go.Ev.Tryz
