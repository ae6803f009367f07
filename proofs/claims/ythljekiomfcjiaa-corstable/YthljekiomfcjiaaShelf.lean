/- No contract of the library is used. -/
import Derived.Test.YthljekiomfcjiaaProg
