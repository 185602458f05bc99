"""Polynomials that can't be parted."""
