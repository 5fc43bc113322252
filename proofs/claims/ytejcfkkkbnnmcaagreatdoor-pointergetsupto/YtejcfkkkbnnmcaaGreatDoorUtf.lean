/- the sequences of UTF-8: in Plain. -/
import Derived.Test.YtejcfkkkbnnmcaaGreatDoorPlain
