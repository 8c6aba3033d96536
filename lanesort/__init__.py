"""Rows put in order, merged, cut, ranked, grouped and matched, by lanes."""
